/-
  reseg: the loop that cuts a packet's bytes into pieces. reseg: what is wrong with what is handed in; a part's FI. reseg: Cut: what may not be, and what goes as it is. sent: a packet copied. sent: Put. sent: a store of one packet, and what of it is due: Count, Due, Drop.
-/
import Derived.Test.YtdaipfmckonfpaaJSentCounts05
import Derived.Test.YtdaipfmckonfpaaJSentCounts07
import Derived.Deep.DeepCutAuto
import Derived.Deep.CutBlock
import Derived.BigQuiet
import Derived.Deep.RegionHeld3
namespace Go.Proofs.Ytdaipfmckonfpaa
open Go.RowKit

/-- pieces of bytes that lie in one row -/
def partsAt (ad : Addr) (cap : Nat) (d : List Nat) : Nat → List Nat → List RowB
  | _, [] => []
  | s, m :: r => ⟨some (ad.add s), cap - s, (d.drop s).take m⟩ :: partsAt ad cap d (s + m) r
theorem partsAt_append (ad : Addr) (cap : Nat) (d : List Nat) (s : Nat) (P Q : List Nat) : partsAt ad cap d s (P ++ Q) = partsAt ad cap d s P ++ partsAt ad cap d (s + P.sum) Q := by
  induction P generalizing s with
  | nil => simp [partsAt]
  | cons m r ih => simp [partsAt, ih, Nat.add_assoc]
theorem partsAt_length (ad : Addr) (cap : Nat) (d : List Nat) (s : Nat) (P : List Nat) : (partsAt ad cap d s P).length = P.length := by
  induction P generalizing s with
  | nil => rfl
  | cons m r ih => simp [partsAt, ih]
theorem partsAt_texts (ad : Addr) (cap : Nat) (d : List Nat) (s : Nat) (P : List Nat) : texts (partsAt ad cap d s P) = slic (d.drop s) P := by
  induction P generalizing s with
  | nil => rfl
  | cons m r ih =>
    have := ih (s + m)
    unfold texts at this ⊢
    simp [partsAt, slic, this, List.drop_drop]
theorem partsAt_lens {ad : Addr} {cap : Nat} {d : List Nat} {s : Nat} {P : List Nat} (h : s + P.sum ≤ d.length) : lens (partsAt ad cap d s P) = P := by
  rw [lens_texts, partsAt_texts, slic_lens (by rw [List.length_drop]; omega)]
theorem src_drop0 {w : World} {ad : Addr} {d : List Nat} (s : Nat) (h : Src w (some ad) (bts d)) : Src w (some (ad.add s)) (bts (d.drop s)) := by
  have := src_dropc (c := 0) s (by simpa using h)
  simpa using this
theorem partsAt_ok {w : World} {ad : Addr} {cap : Nat} {d : List Nat} {s : Nat} {P : List Nat} (h : Src w (some ad) (bts d)) (hc : d.length ≤ cap) (hm : cap ≤ 9223372036854775807) (hb : ∀ b ∈ d, b < 256) : ∀ r ∈ partsAt ad cap d s P, r.ok w := by
  induction P generalizing s with
  | nil => intro r hr; cases hr
  | cons m q ih =>
    intro r hr
    simp only [partsAt, List.mem_cons] at hr
    rcases hr with rfl | hr
    · exact ⟨src_take m (src_drop0 s h), by simp [List.length_take, List.length_drop]; omega, by show cap - s ≤ _; omega, fun b hx => hb b (List.mem_of_mem_drop (List.mem_of_mem_take hx))⟩
    · exact ih r hr
/-- how far the loop is: the packet in memory, its bytes, the pieces -/
structure RsI (B : Nat) (w0 : World) (pk : Array Value) (ls d : List Nat) (a b : Nat) (room wd : Int) (p : Nat) (ad : Addr) (dc : Nat) (N : Nat) (v : Value) (w : World) : Prop where
  inv : CutI ls a b room wd N
  own : w.ownsRow B 42 1 v (pcs ls a N).length ((partsAt ad dc d a (pcs ls a N)).map RowB.v)
  data : OwnY B w (.slice (some ad) ls.sum dc) d
  len : d.length = ls.sum
  row : Row w p 61 pk
  below : Below B w0 w
section
variable {B : Nat} {w0 w v : World} {pk : Array Value} {ls d : List Nat} {a b : Nat} {room wd : Int} {p : Nat} {ad : Addr} {dc N : Nat} {x : Value}
theorem RsI.form (h : RsI B w0 pk ls d a b room wd p ad dc N x w) : ∃ A c, x = .slice A (pcs ls a N).length c ∧ (pcs ls a N).length ≤ c ∧ c ≤ 9223372036854775807 := by
  rcases h.own.2 with ⟨rfl, h0⟩ | ⟨g, cap, cur, rfl, _, _, h1, h2, _⟩
  · exact ⟨none, 0, by rw [h0], by omega, by omega⟩
  · exact ⟨_, cap, rfl, h1, by unfold maxLen at h2; exact h2⟩
theorem own_block2 {B e n : Nat} {w : World} {x : Value} {xs : List Value} (h : w.ownsRow B e 1 x n xs) {k : Nat} (hk : x.ownBlock = some k) : ∃ cs, Row w k e cs := by
  rcases h.2 with ⟨rfl, _⟩ | ⟨g, cap, cur, rfl, _, hh, _⟩
  · simp [Value.ownBlock] at hk
  · have e1 : g = k := by simpa [Value.ownBlock] using hk
    subst e1
    exact ⟨cur, hh⟩
theorem RsI.next (h : RsI B w0 pk ls d a b room wd p ad dc N x w) (hB : B ≤ w.heap.size) (hk : (pcs ls a N).length ≤ 1000) (m : Nat) (hi : CutI ls a b room wd (N + m)) (hp : pcs ls a (N + m) = pcs ls a N ++ [m]) (hm : m ≤ ls.sum - (a + N)) :
    ∃ A c w3, (Builtin.append_ #[59, 59] 59 #[x, .slice (some ⟨w.heap.size, 0, none⟩) 1 1]).run Try.prog (w.alloc (.cells #[.slice (some (ad.add (a + N))) m (dc - (a + N))] 42)) = .ok (.slice A ((pcs ls a N).length + 1) c) w3 ∧
      RsI B w0 pk ls d a b room wd p ad dc (N + m) (.slice A ((pcs ls a N).length + 1) c) w3 := by
  have hs : (pcs ls a N).sum = N := pcs_sum ls a N
  obtain ⟨g, c, w3, h1, h2, h3⟩ := app_row h.own hB ⟨some (ad.add (a + N)), dc - (a + N), (d.drop (a + N)).take m⟩ (by omega)
  have hl : ((d.drop (a + N)).take m).length = m := by rw [List.length_take, List.length_drop, h.len]; omega
  simp only [hl] at h1
  refine ⟨_, c, w3, h1, hi, ?_, h.data.only h3 (fun k hk hS => ?_), h.len, h.row.only h3 (own_apart h.own h.row (by decide)), h.below.trans (own_only_below h.own h3 hB)⟩
  · rw [hp, partsAt_append, hs, List.map_append, List.length_append]
    exact h2
  · obtain ⟨cs, hr⟩ := own_block2 h.data hk
    exact own_apart h.own hr (by decide) hS
end
/-- what the loop tells -/
def CutAnsR (ls d : List Nat) (a b : Nat) (room wd : Int) (w : World) (e : Ending) (w' : World) : Prop :=
  ∃ N A c M, e = .returned (.tuple #[.slice A M.length c, .int .i64 ((a + N : Nat) : Int)]) ∧ CutN ls a b room wd N ∧ lens M = pcs ls a N ∧ texts M = slic (d.drop a) (pcs ls a N) ∧ M.length ≤ c ∧ c ≤ 9223372036854775807 ∧ RSrc w' A M ∧ Below w.heap.size w w'
theorem RsI.done {w0 w : World} {pk : Array Value} {ls d : List Nat} {a b : Nat} {room wd : Int} {p : Nat} {ad : Addr} {dc N q : Nat} {A : Option Addr} {c k : Nat} (h : RsI w0.heap.size w0 pk ls d a b room wd p ad dc N (.slice A k c) w) (hc : CutN ls a b room wd N) (hq : q = a + N) (hab : b ≤ d.length) (hd : d.length ≤ dc) (hdm : dc ≤ 9223372036854775807) (hb : ∀ x ∈ d, x < 256) :
    CutAnsR ls d a b room wd w0 (.returned (.tuple #[.slice A k c, .int .i64 (q : Int)])) w := by
  subst hq
  obtain ⟨A', c', e, h1, h2⟩ := h.form
  injection e with e1 e2 e3
  subst e1 e2 e3
  have hs : (pcs ls a N).sum = N := pcs_sum ls a N
  refine ⟨N, A, c, partsAt ad dc d a (pcs ls a N), by rw [partsAt_length], hc, partsAt_lens (by rw [hs]; have := hc.1; omega), partsAt_texts _ _ _ _ _, by rw [partsAt_length]; exact h1, h2, ?_, h.below⟩
  intro h0
  rcases h.own.2 with ⟨e, h9⟩ | ⟨g, cap, cur, e, _⟩
  · rw [partsAt_length] at h0; omega
  · injection e with e1 e2 e3
    subst e1
    exact ⟨_, rfl, fun j r hr => ⟨h.own.cells (g := g) rfl j _ (by rw [List.getElem?_map, hr]; rfl), partsAt_ok h.data.src hd hdm hb r (List.mem_of_getElem? hr)⟩⟩
end Go.Proofs.Ytdaipfmckonfpaa
namespace Go.Proofs.Ytdaipfmckonfpaa
open Go.RowKit

end Go.Proofs.Ytdaipfmckonfpaa
namespace Go.Proofs.Ytdaipfmckonfpaa
open Go.RowKit

section
variable {w w0 : World} {g B : Nat} {t : TypeId} {cs : Array Value} {a b c d e f s a' b' c' d' e' f' s' : Value}
/-- a packet's seven cells set -/
abbrev set7 (w : World) (g : Nat) (a b c d e f s : Value) : World := ((((((w.setCell ⟨g, 0, none⟩ a).setCell ⟨g, 1, none⟩ b).setCell ⟨g, 2, none⟩ c).setCell ⟨g, 3, none⟩ d).setCell ⟨g, 4, none⟩ e).setCell ⟨g, 5, none⟩ f).setCell ⟨g, 6, none⟩ s
theorem row_set7 (h : Row w g t #[a', b', c', d', e', f', s']) : Row (set7 w g a b c d e f s) g t #[a, b, c, d, e, f, s] := by
  have h0 : Row _ g t #[a, b', c', d', e', f', s'] := h.written 0 a
  have h1 : Row _ g t #[a, b, c', d', e', f', s'] := h0.written 1 b
  have h2 : Row _ g t #[a, b, c, d', e', f', s'] := h1.written 2 c
  have h3 : Row _ g t #[a, b, c, d, e', f', s'] := h2.written 3 d
  have h4 : Row _ g t #[a, b, c, d, e, f', s'] := h3.written 4 e
  have h5 : Row _ g t #[a, b, c, d, e, f, s'] := h4.written 5 f
  exact h5.written 6 s
theorem only_set7 {S : Nat → Prop} (h : Only S w0 w) (hS : S g) : Only S w0 (set7 w g a b c d e f s) :=
  ((((((h.set (p := ⟨g, 0, none⟩) (.inl hS) a).set (p := ⟨g, 1, none⟩) (.inl hS) b).set (p := ⟨g, 2, none⟩) (.inl hS) c).set (p := ⟨g, 3, none⟩) (.inl hS) d).set (p := ⟨g, 4, none⟩) (.inl hS) e).set (p := ⟨g, 5, none⟩) (.inl hS) f).set (p := ⟨g, 6, none⟩) (.inl hS) s
theorem below_set7 (h : Below B w0 w) (hB : B ≤ g) : Below B w0 (set7 w g a b c d e f s) :=
  ((((((h.setCell (p := ⟨g, 0, none⟩) hB a).setCell (p := ⟨g, 1, none⟩) hB b).setCell (p := ⟨g, 2, none⟩) hB c).setCell (p := ⟨g, 3, none⟩) hB d).setCell (p := ⟨g, 4, none⟩) hB e).setCell (p := ⟨g, 5, none⟩) hB f).setCell (p := ⟨g, 6, none⟩) hB s
end
theorem OwnR.old {B : Nat} {w w' : World} {v : Value} {L : List RowB} {S : Nat → Prop} (h : OwnR B w v L) (ho : Only S w w') (hS : ∀ k, S k → k < B) : OwnR B w' v L :=
  h.only ho (fun k hk hs => by have := (h.own.lt k hk).1; have := hS k hs; omega) (fun k _ _ hb hs => by have := hS k hs; omega)
end Go.Proofs.Ytdaipfmckonfpaa
namespace Go.Proofs.Ytdaipfmckonfpaa
open Go.RowKit Go.Maps

theorem Try.infoap : (Try.prog.info? 61).map (·.size) = some 7 := by kernel_rfl
theorem Try.underap : (Try.prog.underlying 61).map (fun d => match d with | .struct _ => true | _ => false) = some true := by kernel_rfl
theorem underap_parts : ∃ fs, Try.prog.underlying 61 = some (.struct fs) := by
  obtain ⟨d, hd, h⟩ := Option.map_eq_some_iff.1 Try.underap
  cases d with
  | struct fs => exact ⟨fs, hd⟩
  | _ => simp at h
theorem scells7 {w : World} {g : Nat} {t : TypeId} {x0 x1 x2 x3 x4 x5 x6 : Value} (h : Row w g t #[x0, x1, x2, x3, x4, x5, x6]) : (w.cell? ⟨g, 0, none⟩ = some x0 ∧ w.cell? ⟨g, 1, none⟩ = some x1 ∧ w.cell? ⟨g, 2, none⟩ = some x2 ∧ w.cell? ⟨g, 3, none⟩ = some x3 ∧ w.cell? ⟨g, 4, none⟩ = some x4 ∧ w.cell? ⟨g, 5, none⟩ = some x5 ∧ w.cell? ⟨g, 6, none⟩ = some x6) :=
  ⟨h.read rfl, h.read rfl, h.read rfl, h.read rfl, h.read rfl, h.read rfl, h.read rfl⟩
set_option maxRecDepth 100000 in
set_option maxHeartbeats 3200000 in
theorem scopied_any {A : Option Addr} {L : List RowB} (poll part last : Bool) (fi sn off : Int) (n cap : Nat) (w : World) (hL : L.length = n) (hn : n ≤ 1000) (hs : RSrc w A L) (h0 : ∀ l ∈ lens L, 0 < l ∧ l ≤ 1000000) :
    Calls Try.prog 90 #[.agg #[.bool poll, .int .i64 fi, .int .i64 sn, .bool part, .bool last, .int .i64 off, .slice A n cap]] w fun e w' => ∃ g M, e = .returned (.agg #[.bool poll, .int .i64 fi, .int .i64 sn, .bool part, .bool last, .int .i64 off, .slice (some ⟨g, 0, none⟩) n n]) ∧ M.length = n ∧ texts M = texts L ∧ OwnR w.heap.size w' (.slice (some ⟨g, 0, none⟩) n n) M ∧ Below w.heap.size w w' := by
  obtain ⟨ds, hds⟩ := underap_parts
  have hb0 := bl_alloc (bl_alloc (Below.refl w.heap.size w) (.cells #[.bool poll, .int .i64 fi, .int .i64 sn, .bool part, .bool last, .int .i64 off, .slice A n cap] 61)) (.cells #[.bool false, .int .i64 0, .int .i64 0, .bool false, .bool false, .int .i64 0, .slice none 0 0] 61)
  have HB0 := Lib.hid hb0
  have HR1 := Lib.hid ((Row.made w 61 #[.bool poll, .int .i64 fi, .int .i64 sn, .bool part, .bool last, .int .i64 off, .slice A n cap]).more (.cells #[.bool false, .int .i64 0, .int .i64 0, .bool false, .bool false, .int .i64 0, .slice none 0 0] 61))
  have hz := Row.made (w.alloc (.cells #[.bool poll, .int .i64 fi, .int .i64 sn, .bool part, .bool last, .int .i64 off, .slice A n cap] 61)) 61 #[.bool false, .int .i64 0, .int .i64 0, .bool false, .bool false, .int .i64 0, .slice none 0 0]
  rw [show (w.alloc (.cells #[.bool poll, .int .i64 fi, .int .i64 sn, .bool part, .bool last, .int .i64 off, .slice A n cap] 61)).heap.size = w.heap.size + 1 by simp] at hz
  have HZ := Lib.hid hz
  have HC := Lib.hid (fun W (h : RSrc W A L) => copy_any n cap W hL hn h h0)
  have HS := Lib.hid (hs.later hb0)
  obtain ⟨a0, a1, a2, a3, a4, a5, a6⟩ := scells7 HR1.out
  clear hb0 hz hs
  go_enter Try.func90, Try.ntmps90
  go_upto_region 2 with (go_at_call 114; (with_reducible refine (HC.out _ HS.out).mono ?_); rintro e w1 ⟨g, M, rfl, hM, htx, ho, hb⟩; (have HM := Lib.hid (And.intro hM htx); have HO := Lib.hid ho; have HB1 := Lib.hid hb; have HR2 := Lib.hid (HR1.out.later hb); have HZ2 := Lib.hid (HZ.out.later hb); clear hM htx ho hb; clear a0 a1 a2 a3 a4 a5 a6; have f6 := HR2.out.free 6; obtain ⟨a0, a1, a2, a3, a4, a5, a6⟩ := scells7 HR2.out))
  have HX := Lib.hid (HR2.out.written 6 (.slice (some ⟨g, 0, none⟩) n n))
  have hbx : Below w.heap.size w (w1.setCell ⟨w.heap.size, 6, none⟩ (.slice (some ⟨g, 0, none⟩) n n)) := (bl_step HB0.out HB1.out).setCell (p := ⟨w.heap.size, 6, none⟩) (Nat.le_refl _) _
  have HBX := Lib.hid hbx
  have hzx : Row (w1.setCell ⟨w.heap.size, 6, none⟩ (.slice (some ⟨g, 0, none⟩) n n)) (w.heap.size + 1) 61 #[.bool false, .int .i64 0, .int .i64 0, .bool false, .bool false, .int .i64 0, .slice none 0 0] := HZ2.out.elsewhere (p := ⟨w.heap.size, 6, none⟩) (by simp) _
  have HZX := Lib.hid hzx
  have hgs : w.heap.size + 2 ≤ g := by
    have := HO.out.own
    rcases this.2 with ⟨h, _⟩ | ⟨g', cp, cur, h, hg, _⟩
    · cases h
    · injection h with h _ _
      injection h with h
      injection h with h _ _
      subst h
      simpa using hg
  have hox : OwnR w.heap.size (w1.setCell ⟨w.heap.size, 6, none⟩ (.slice (some ⟨g, 0, none⟩) n n)) (.slice (some ⟨g, 0, none⟩) n n) M := by
    have ho : Only (fun k => k = w.heap.size) w1 (w1.setCell ⟨w.heap.size, 6, none⟩ (.slice (some ⟨g, 0, none⟩) n n)) := (Only.refl (fun k => k = w.heap.size) w1).set (p := ⟨w.heap.size, 6, none⟩) (.inl rfl) _
    have h2 : OwnR _ _ (.slice (some ⟨g, 0, none⟩) n n) M := OwnR.only HO.out ho (fun k hk e => by injection hk with hk; have hk : g = k := hk; omega) (fun k cs _ hB e => by simp only [World.size_alloc] at hB; omega)
    exact h2.down (by simp only [World.size_alloc]; omega)
  have HOX := Lib.hid (show ∀ v, Only (fun k => k = w.heap.size + 1) (w1.setCell ⟨w.heap.size, 6, none⟩ (.slice (some ⟨g, 0, none⟩) n n)) v → OwnR w.heap.size v (.slice (some ⟨g, 0, none⟩) n n) M from by
    intro v hv
    have ho : Only (fun k => k = w.heap.size ∨ k = w.heap.size + 1) w1 v := ((Only.refl (fun k => k = w.heap.size ∨ k = w.heap.size + 1) w1).set (p := ⟨w.heap.size, 6, none⟩) (.inl (.inl rfl)) _).andThen hv (fun k _ hk => .inr hk)
    have h2 : OwnR _ _ (.slice (some ⟨g, 0, none⟩) n n) M := OwnR.only HO.out ho (fun k hk e => by injection hk with hk; have hk : g = k := hk; omega) (fun k cs _ hB e => by simp only [World.size_alloc] at hB; omega)
    exact h2.down (by simp only [World.size_alloc]; omega))
  clear hbx hzx hgs hox a0 a1 a2 a3 a4 a5 a6 f6
  obtain ⟨a0, a1, a2, a3, a4, a5, a6⟩ := scells7 HX.out
  obtain ⟨b0, b1, b2, b3, b4, b5, b6⟩ := scells7 HZX.out
  have f := HZX.out.free
  have f0 := f 0
  have f1 := f 1
  have f2 := f 2
  have f3 := f 3
  have f4 := f 4
  have f5 := f 5
  have f6 := f 6
  clear f
  generalize (w1.setCell ⟨w.heap.size, 6, none⟩ (.slice (some ⟨g, 0, none⟩) n n)) = wx at *
  go_wp2
  refine bodyPost_ret (results_cell_row rfl _ _ (w.heap.size + 1) 61 #[.bool poll, .int .i64 fi, .int .i64 sn, .bool part, .bool last, .int .i64 off, .slice (some ⟨g, 0, none⟩) n n] (0, 0) (.struct ds) rfl (row_set7 HZX.out) hds rfl Try.infoap) rfl ?_
  exact ⟨g, M, rfl, HM.out.1, HM.out.2, HOX.out _ (only_set7 (Only.refl _ _) rfl), below_set7 HBX.out (Nat.le_succ _)⟩
end Go.Proofs.Ytdaipfmckonfpaa
namespace Go.Proofs.Ytdaipfmckonfpaa
open Go.RowKit Go.Maps

section
variable {w v : World} {p m1 m2 k1 k2 : Nat} {wd n : Int} {M1 M2 : Int → Option Nat}
set_option maxRecDepth 100000 in
set_option maxHeartbeats 3200000 in
theorem sput_part {A : Option Addr} (poll last : Bool) (fi sn off : Int) (n cap : Nat) (h : StoR w p m1 m2 wd k1 k2 M1 M2) :
    Calls Try.prog 34 #[.pointer (some ⟨p, 0, none⟩), .agg #[.bool poll, .int .i64 fi, .int .i64 sn, .bool true, .bool last, .int .i64 off, .slice A n cap]] w fun e w' => e = .returned (.int .i64 3) ∧ Below w.heap.size w w' := by
  have hb0 := bl_alloc (Below.refl w.heap.size w) (.cells #[.bool poll, .int .i64 fi, .int .i64 sn, .bool true, .bool last, .int .i64 off, .slice A n cap] 61)
  have HB0 := Lib.hid hb0
  have HST := Lib.hid (h.later hb0)
  have HPB := Lib.hid (Row.made w 61 #[.bool poll, .int .i64 fi, .int .i64 sn, .bool true, .bool last, .int .i64 off, .slice A n cap])
  have HMD := Lib.hid (smade_any HST.out)
  obtain ⟨a0, a1, a2, a3, a4, a5, a6⟩ := scells7 HPB.out
  have b0 := HST.out.row.read (i := 0) rfl
  clear h hb0
  go_enter Try.func34, Try.ntmps34
  go_wp2_with (go_at_call 88; (with_reducible refine HMD.out.mono ?_); rintro e w1 ⟨rfl, rfl⟩)
  go_quiet (fail)
  go_wp2
  go_ret
  exact ⟨rfl, HB0.out.trans (below_drewN (Below.refl _ _) _)⟩
set_option maxRecDepth 100000 in
set_option maxHeartbeats 3200000 in
theorem sput_bad {A : Option Addr} {L : List RowB} (poll last : Bool) (fi sn off : Int) (n cap : Nat) (h : StoR w p m1 m2 wd k1 k2 M1 M2) (hL : L.length = n) (hn : n ≤ 9223372036854775807) (hs : RSrc w A L) (hm : ∀ m ∈ lens L, m ≤ 9223372036854775807) (hz : amdF false last fi sn off (lens L) wd = 0) :
    Calls Try.prog 34 #[.pointer (some ⟨p, 0, none⟩), .agg #[.bool poll, .int .i64 fi, .int .i64 sn, .bool false, .bool last, .int .i64 off, .slice A n cap]] w fun e w' => e = .returned (.int .i64 3) ∧ Below w.heap.size w w' := by
  have HR := Lib.hid (fun W (hb : Below w.heap.size w W) => aright_any poll false last fi sn off wd n cap W hL hn (hs.later hb) hm)
  rw [hz] at HR
  clear hs hz hm hL
  have hb0 := bl_alloc (Below.refl w.heap.size w) (.cells #[.bool poll, .int .i64 fi, .int .i64 sn, .bool false, .bool last, .int .i64 off, .slice A n cap] 61)
  have HB0 := Lib.hid hb0
  have HST := Lib.hid (h.later hb0)
  have HPB := Lib.hid (Row.made w 61 #[.bool poll, .int .i64 fi, .int .i64 sn, .bool false, .bool last, .int .i64 off, .slice A n cap])
  have HMD := Lib.hid (smade_any HST.out)
  obtain ⟨a0, a1, a2, a3, a4, a5, a6⟩ := scells7 HPB.out
  have b0 := HST.out.row.read (i := 0) rfl
  clear h hb0
  have k0 : (w.alloc (.cells #[.bool poll, .int .i64 fi, .int .i64 sn, .bool false, .bool last, .int .i64 off, .slice A n cap] 61)).drew.cell? ⟨p, 0, none⟩ = some (.int .i64 wd) ∧ (w.alloc (.cells #[.bool poll, .int .i64 fi, .int .i64 sn, .bool false, .bool last, .int .i64 off, .slice A n cap] 61)).drew.cell? ⟨w.heap.size, 0, none⟩ = some (.bool poll) ∧ (w.alloc (.cells #[.bool poll, .int .i64 fi, .int .i64 sn, .bool false, .bool last, .int .i64 off, .slice A n cap] 61)).drew.cell? ⟨w.heap.size, 1, none⟩ = some (.int .i64 fi) ∧ (w.alloc (.cells #[.bool poll, .int .i64 fi, .int .i64 sn, .bool false, .bool last, .int .i64 off, .slice A n cap] 61)).drew.cell? ⟨w.heap.size, 2, none⟩ = some (.int .i64 sn) ∧ (w.alloc (.cells #[.bool poll, .int .i64 fi, .int .i64 sn, .bool false, .bool last, .int .i64 off, .slice A n cap] 61)).drew.cell? ⟨w.heap.size, 3, none⟩ = some (.bool false) ∧ (w.alloc (.cells #[.bool poll, .int .i64 fi, .int .i64 sn, .bool false, .bool last, .int .i64 off, .slice A n cap] 61)).drew.cell? ⟨w.heap.size, 4, none⟩ = some (.bool last) ∧ (w.alloc (.cells #[.bool poll, .int .i64 fi, .int .i64 sn, .bool false, .bool last, .int .i64 off, .slice A n cap] 61)).drew.cell? ⟨w.heap.size, 5, none⟩ = some (.int .i64 off) ∧ (w.alloc (.cells #[.bool poll, .int .i64 fi, .int .i64 sn, .bool false, .bool last, .int .i64 off, .slice A n cap] 61)).drew.cell? ⟨w.heap.size, 6, none⟩ = some (.slice A n cap) := ⟨HST.out.row.drawn.read rfl, scells7 HPB.out.drawn⟩
  go_enter Try.func34, Try.ntmps34
  go_wp2_with (go_at_call 88; (with_reducible refine HMD.out.mono ?_); rintro e w1 ⟨rfl, rfl⟩)
  clear a0 a1 a2 a3 a4 a5 a6 b0
  go_region_held3 (fun w' => w'.cell? ⟨p, 0, none⟩ = some (.int .i64 wd) ∧ w'.cell? ⟨w.heap.size, 0, none⟩ = some (.bool poll) ∧ w'.cell? ⟨w.heap.size, 1, none⟩ = some (.int .i64 fi) ∧ w'.cell? ⟨w.heap.size, 2, none⟩ = some (.int .i64 sn) ∧ w'.cell? ⟨w.heap.size, 3, none⟩ = some (.bool false) ∧ w'.cell? ⟨w.heap.size, 4, none⟩ = some (.bool last) ∧ w'.cell? ⟨w.heap.size, 5, none⟩ = some (.int .i64 off) ∧ w'.cell? ⟨w.heap.size, 6, none⟩ = some (.slice A n cap)) (first | with_reducible exact k0 | with_reducible exact k1 | go_keep)
    (first
      | (go_at_call 52; (with_reducible refine (HR.out _ (bl_drew HB0.out)).mono ?_); rintro e w1 ⟨rfl, hb⟩; (have HB1 := Lib.hid (bl_step (bl_drew HB0.out) hb); have k1 : w1.cell? ⟨p, 0, none⟩ = some (.int .i64 wd) ∧ w1.cell? ⟨w.heap.size, 0, none⟩ = some (.bool poll) ∧ w1.cell? ⟨w.heap.size, 1, none⟩ = some (.int .i64 fi) ∧ w1.cell? ⟨w.heap.size, 2, none⟩ = some (.int .i64 sn) ∧ w1.cell? ⟨w.heap.size, 3, none⟩ = some (.bool false) ∧ w1.cell? ⟨w.heap.size, 4, none⟩ = some (.bool last) ∧ w1.cell? ⟨w.heap.size, 5, none⟩ = some (.int .i64 off) ∧ w1.cell? ⟨w.heap.size, 6, none⟩ = some (.slice A n cap) := ⟨((HST.out.row.drawn).later hb).read rfl, scells7 ((HPB.out.drawn).later hb)⟩; clear hb)))
  go_wp2
  go_ret
  exact ⟨rfl, HB1.out⟩
set_option maxRecDepth 100000 in
set_option maxHeartbeats 3200000 in
theorem sput_twice {A : Option Addr} {L : List RowB} {g : Nat} (poll last : Bool) (fi sn off : Int) (n cap : Nat) (h : StoR w p m1 m2 wd k1 k2 M1 M2) (hL : L.length = n) (hn9 : n ≤ 9223372036854775807) (hs : RSrc w A L) (hm : ∀ m ∈ lens L, m ≤ 9223372036854775807) (hz : 0 < amdF false last fi sn off (lens L) wd) (hwf : (Lit.int .i64 sn).wf = true) (hg : M1 sn = some g) :
    Calls Try.prog 34 #[.pointer (some ⟨p, 0, none⟩), .agg #[.bool poll, .int .i64 fi, .int .i64 sn, .bool false, .bool last, .int .i64 off, .slice A n cap]] w fun e w' => e = .returned (.int .i64 12) ∧ Below w.heap.size w w' := by
  have HR := Lib.hid (fun W (hb : Below w.heap.size w W) => aright_any poll false last fi sn off wd n cap W hL hn9 (hs.later hb) hm)
  rw [show decide (0 < amdF false last fi sn off (lens L) wd) = true from by simpa using hz] at HR
  clear hs hz hm hL
  have hb0 := bl_alloc (Below.refl w.heap.size w) (.cells #[.bool poll, .int .i64 fi, .int .i64 sn, .bool false, .bool last, .int .i64 off, .slice A n cap] 61)
  have HB0 := Lib.hid hb0
  have HST := Lib.hid (h.later hb0)
  have HPB := Lib.hid (Row.made w 61 #[.bool poll, .int .i64 fi, .int .i64 sn, .bool false, .bool last, .int .i64 off, .slice A n cap])
  have HMD := Lib.hid (smade_any HST.out)
  obtain ⟨a0, a1, a2, a3, a4, a5, a6⟩ := scells7 HPB.out
  have b0 := HST.out.row.read (i := 0) rfl
  clear h hb0
  have k0 : (w.alloc (.cells #[.bool poll, .int .i64 fi, .int .i64 sn, .bool false, .bool last, .int .i64 off, .slice A n cap] 61)).drew.cell? ⟨p, 0, none⟩ = some (.int .i64 wd) ∧ (w.alloc (.cells #[.bool poll, .int .i64 fi, .int .i64 sn, .bool false, .bool last, .int .i64 off, .slice A n cap] 61)).drew.cell? ⟨w.heap.size, 0, none⟩ = some (.bool poll) ∧ (w.alloc (.cells #[.bool poll, .int .i64 fi, .int .i64 sn, .bool false, .bool last, .int .i64 off, .slice A n cap] 61)).drew.cell? ⟨w.heap.size, 1, none⟩ = some (.int .i64 fi) ∧ (w.alloc (.cells #[.bool poll, .int .i64 fi, .int .i64 sn, .bool false, .bool last, .int .i64 off, .slice A n cap] 61)).drew.cell? ⟨w.heap.size, 2, none⟩ = some (.int .i64 sn) ∧ (w.alloc (.cells #[.bool poll, .int .i64 fi, .int .i64 sn, .bool false, .bool last, .int .i64 off, .slice A n cap] 61)).drew.cell? ⟨w.heap.size, 3, none⟩ = some (.bool false) ∧ (w.alloc (.cells #[.bool poll, .int .i64 fi, .int .i64 sn, .bool false, .bool last, .int .i64 off, .slice A n cap] 61)).drew.cell? ⟨w.heap.size, 4, none⟩ = some (.bool last) ∧ (w.alloc (.cells #[.bool poll, .int .i64 fi, .int .i64 sn, .bool false, .bool last, .int .i64 off, .slice A n cap] 61)).drew.cell? ⟨w.heap.size, 5, none⟩ = some (.int .i64 off) ∧ (w.alloc (.cells #[.bool poll, .int .i64 fi, .int .i64 sn, .bool false, .bool last, .int .i64 off, .slice A n cap] 61)).drew.cell? ⟨w.heap.size, 6, none⟩ = some (.slice A n cap) := ⟨HST.out.row.drawn.read rfl, scells7 HPB.out.drawn⟩
  go_enter Try.func34, Try.ntmps34
  go_upto_region 3 with (go_at_call 88; (with_reducible refine HMD.out.mono ?_); rintro e w1 ⟨rfl, rfl⟩)
  clear a0 a1 a2 a3 a4 a5 a6 b0
  go_wp2
  go_region_held3 (fun w' => w'.cell? ⟨p, 0, none⟩ = some (.int .i64 wd) ∧ w'.cell? ⟨w.heap.size, 0, none⟩ = some (.bool poll) ∧ w'.cell? ⟨w.heap.size, 1, none⟩ = some (.int .i64 fi) ∧ w'.cell? ⟨w.heap.size, 2, none⟩ = some (.int .i64 sn) ∧ w'.cell? ⟨w.heap.size, 3, none⟩ = some (.bool false) ∧ w'.cell? ⟨w.heap.size, 4, none⟩ = some (.bool last) ∧ w'.cell? ⟨w.heap.size, 5, none⟩ = some (.int .i64 off) ∧ w'.cell? ⟨w.heap.size, 6, none⟩ = some (.slice A n cap)) (first | with_reducible exact k0 | with_reducible exact k1 | go_keep)
    (first
      | (go_at_call 52; (with_reducible refine (HR.out _ (bl_drew HB0.out)).mono ?_); rintro e w1 ⟨rfl, hb⟩; (have HB1 := Lib.hid (bl_step (bl_drew HB0.out) hb); have HS1 := Lib.hid ((HST.out.later (bl_drew (Below.refl _ _))).later hb); have HP1 := Lib.hid ((HPB.out.drawn).later hb); have k1 : w1.cell? ⟨p, 0, none⟩ = some (.int .i64 wd) ∧ w1.cell? ⟨w.heap.size, 0, none⟩ = some (.bool poll) ∧ w1.cell? ⟨w.heap.size, 1, none⟩ = some (.int .i64 fi) ∧ w1.cell? ⟨w.heap.size, 2, none⟩ = some (.int .i64 sn) ∧ w1.cell? ⟨w.heap.size, 3, none⟩ = some (.bool false) ∧ w1.cell? ⟨w.heap.size, 4, none⟩ = some (.bool last) ∧ w1.cell? ⟨w.heap.size, 5, none⟩ = some (.int .i64 off) ∧ w1.cell? ⟨w.heap.size, 6, none⟩ = some (.slice A n cap) := ⟨HS1.out.row.read rfl, scells7 HP1.out⟩; clear hb)))
  obtain ⟨b0, a0, a1, a2, a3, a4, a5, a6⟩ := k1
  have hf := sfind_any HS1.out hwf
  rw [hg] at hf
  unfold ptrV at hf
  have HFD := Lib.hid hf
  clear hf
  go_wp2_with (go_at_call 89; (with_reducible refine HFD.out.mono ?_); rintro e w1 ⟨rfl, rfl⟩)
  go_ret
  exact ⟨rfl, HB1.out⟩
set_option maxRecDepth 100000 in
set_option maxHeartbeats 3200000 in
theorem sput_ok {A : Option Addr} {L : List RowB} (poll last : Bool) (fi sn off : Int) (n cap : Nat) (h : StoR w p m1 m2 wd k1 k2 M1 M2) (hL : L.length = n) (hn : n ≤ 1000) (hs : RSrc w A L) (hm : ∀ m ∈ lens L, m ≤ 9223372036854775807) (h0 : ∀ l ∈ lens L, 0 < l ∧ l ≤ 1000000) (hz : 0 < amdF false last fi sn off (lens L) wd) (hwf : (Lit.int .i64 sn).wf = true) (hg : M1 sn = none) (hk : k1 < 32768) :
    Calls Try.prog 34 #[.pointer (some ⟨p, 0, none⟩), .agg #[.bool poll, .int .i64 fi, .int .i64 sn, .bool false, .bool last, .int .i64 off, .slice A n cap]] w fun e w' => e = .returned (.int .i64 0) ∧ ∃ g M, M.length = n ∧ texts M = texts L ∧ w.heap.size ≤ g ∧ StoR w' p m1 m2 wd (k1 + 1) k2 (fun x => if x = sn then some g else M1 x) M2 ∧ KeptR w.heap.size w' g fi sn poll last off M 0 ∧ Only (fun k => k = m1) w w' := by
  have hn9 : n ≤ 9223372036854775807 := by omega
  have HR := Lib.hid (fun W (hb : Below w.heap.size w W) => aright_any poll false last fi sn off wd n cap W hL hn9 (hs.later hb) hm)
  rw [show decide (0 < amdF false last fi sn off (lens L) wd) = true from by simpa using hz] at HR
  have HC := Lib.hid (fun W (hb : Below w.heap.size w W) => scopied_any poll false last fi sn off n cap W hL hn (hs.later hb) h0)
  clear hs hz hm hL
  have hb0 := bl_alloc (Below.refl w.heap.size w) (.cells #[.bool poll, .int .i64 fi, .int .i64 sn, .bool false, .bool last, .int .i64 off, .slice A n cap] 61)
  have HB0 := Lib.hid hb0
  have HST := Lib.hid (h.later hb0)
  have HPB := Lib.hid (Row.made w 61 #[.bool poll, .int .i64 fi, .int .i64 sn, .bool false, .bool last, .int .i64 off, .slice A n cap])
  have HMD := Lib.hid (smade_any HST.out)
  obtain ⟨a0, a1, a2, a3, a4, a5, a6⟩ := scells7 HPB.out
  have b0 := HST.out.row.read (i := 0) rfl
  clear h hb0
  have k0 : (w.alloc (.cells #[.bool poll, .int .i64 fi, .int .i64 sn, .bool false, .bool last, .int .i64 off, .slice A n cap] 61)).drew.cell? ⟨p, 0, none⟩ = some (.int .i64 wd) ∧ (w.alloc (.cells #[.bool poll, .int .i64 fi, .int .i64 sn, .bool false, .bool last, .int .i64 off, .slice A n cap] 61)).drew.cell? ⟨w.heap.size, 0, none⟩ = some (.bool poll) ∧ (w.alloc (.cells #[.bool poll, .int .i64 fi, .int .i64 sn, .bool false, .bool last, .int .i64 off, .slice A n cap] 61)).drew.cell? ⟨w.heap.size, 1, none⟩ = some (.int .i64 fi) ∧ (w.alloc (.cells #[.bool poll, .int .i64 fi, .int .i64 sn, .bool false, .bool last, .int .i64 off, .slice A n cap] 61)).drew.cell? ⟨w.heap.size, 2, none⟩ = some (.int .i64 sn) ∧ (w.alloc (.cells #[.bool poll, .int .i64 fi, .int .i64 sn, .bool false, .bool last, .int .i64 off, .slice A n cap] 61)).drew.cell? ⟨w.heap.size, 3, none⟩ = some (.bool false) ∧ (w.alloc (.cells #[.bool poll, .int .i64 fi, .int .i64 sn, .bool false, .bool last, .int .i64 off, .slice A n cap] 61)).drew.cell? ⟨w.heap.size, 4, none⟩ = some (.bool last) ∧ (w.alloc (.cells #[.bool poll, .int .i64 fi, .int .i64 sn, .bool false, .bool last, .int .i64 off, .slice A n cap] 61)).drew.cell? ⟨w.heap.size, 5, none⟩ = some (.int .i64 off) ∧ (w.alloc (.cells #[.bool poll, .int .i64 fi, .int .i64 sn, .bool false, .bool last, .int .i64 off, .slice A n cap] 61)).drew.cell? ⟨w.heap.size, 6, none⟩ = some (.slice A n cap) := ⟨HST.out.row.drawn.read rfl, scells7 HPB.out.drawn⟩
  go_enter Try.func34, Try.ntmps34
  go_upto_region 3 with (go_at_call 88; (with_reducible refine HMD.out.mono ?_); rintro e w1 ⟨rfl, rfl⟩)
  clear a0 a1 a2 a3 a4 a5 a6 b0
  go_wp2
  go_region_held3 (fun w' => w'.cell? ⟨p, 0, none⟩ = some (.int .i64 wd) ∧ w'.cell? ⟨w.heap.size, 0, none⟩ = some (.bool poll) ∧ w'.cell? ⟨w.heap.size, 1, none⟩ = some (.int .i64 fi) ∧ w'.cell? ⟨w.heap.size, 2, none⟩ = some (.int .i64 sn) ∧ w'.cell? ⟨w.heap.size, 3, none⟩ = some (.bool false) ∧ w'.cell? ⟨w.heap.size, 4, none⟩ = some (.bool last) ∧ w'.cell? ⟨w.heap.size, 5, none⟩ = some (.int .i64 off) ∧ w'.cell? ⟨w.heap.size, 6, none⟩ = some (.slice A n cap)) (first | with_reducible exact k0 | with_reducible exact k1 | go_keep)
    (first
      | (go_at_call 52; (with_reducible refine (HR.out _ (bl_drew HB0.out)).mono ?_); rintro e w1 ⟨rfl, hb⟩; (have HB1 := Lib.hid (bl_step (bl_drew HB0.out) hb); have HS1 := Lib.hid ((HST.out.later (bl_drew (Below.refl _ _))).later hb); have HP1 := Lib.hid ((HPB.out.drawn).later hb); have k1 : w1.cell? ⟨p, 0, none⟩ = some (.int .i64 wd) ∧ w1.cell? ⟨w.heap.size, 0, none⟩ = some (.bool poll) ∧ w1.cell? ⟨w.heap.size, 1, none⟩ = some (.int .i64 fi) ∧ w1.cell? ⟨w.heap.size, 2, none⟩ = some (.int .i64 sn) ∧ w1.cell? ⟨w.heap.size, 3, none⟩ = some (.bool false) ∧ w1.cell? ⟨w.heap.size, 4, none⟩ = some (.bool last) ∧ w1.cell? ⟨w.heap.size, 5, none⟩ = some (.int .i64 off) ∧ w1.cell? ⟨w.heap.size, 6, none⟩ = some (.slice A n cap) := ⟨HS1.out.row.read rfl, scells7 HP1.out⟩; clear hb)))
  obtain ⟨b0, a0, a1, a2, a3, a4, a5, a6⟩ := k1
  have hf := sfind_any HS1.out hwf
  rw [hg] at hf
  unfold ptrV at hf
  have HFD := Lib.hid hf
  have c1 := HS1.out.row.read (i := 1) rfl
  obtain ⟨K1, hK1⟩ : ∃ K1 : Int, K1 = (k1 : Int) := ⟨_, rfl⟩
  have hk' : ¬ (32768 : Int) ≤ K1 := by omega
  have HK1 := Lib.hid hK1
  have HMP := Lib.hid HS1.out.mp1
  clear hf hk hK1
  go_upto_region 9 with (first
    | (go_at_call 89; (with_reducible refine HFD.out.mono ?_); rintro e w1 ⟨rfl, rfl⟩)
    | (at_len; refine wpList_mlen rfl _ 132 rfl 136 Try.underkm rfl HMP.out ?_; rw [← HK1.out]))
  clear b0 c1 a0 a1 a2 a3 a4 a5 a6
  have k0 : w1.drew.cell? ⟨p, 1, none⟩ = some (.map (some m1)) ∧ w1.drew.cell? ⟨w.heap.size, 0, none⟩ = some (.bool poll) ∧ w1.drew.cell? ⟨w.heap.size, 1, none⟩ = some (.int .i64 fi) ∧ w1.drew.cell? ⟨w.heap.size, 2, none⟩ = some (.int .i64 sn) ∧ w1.drew.cell? ⟨w.heap.size, 3, none⟩ = some (.bool false) ∧ w1.drew.cell? ⟨w.heap.size, 4, none⟩ = some (.bool last) ∧ w1.drew.cell? ⟨w.heap.size, 5, none⟩ = some (.int .i64 off) ∧ w1.drew.cell? ⟨w.heap.size, 6, none⟩ = some (.slice A n cap) := ⟨HS1.out.row.drawn.read rfl, scells7 HP1.out.drawn⟩
  go_wp2
  go_region_held3 (fun w' => w'.cell? ⟨p, 1, none⟩ = some (.map (some m1)) ∧ w'.cell? ⟨w.heap.size, 0, none⟩ = some (.bool poll) ∧ w'.cell? ⟨w.heap.size, 1, none⟩ = some (.int .i64 fi) ∧ w'.cell? ⟨w.heap.size, 2, none⟩ = some (.int .i64 sn) ∧ w'.cell? ⟨w.heap.size, 3, none⟩ = some (.bool false) ∧ w'.cell? ⟨w.heap.size, 4, none⟩ = some (.bool last) ∧ w'.cell? ⟨w.heap.size, 5, none⟩ = some (.int .i64 off) ∧ w'.cell? ⟨w.heap.size, 6, none⟩ = some (.slice A n cap)) (first | with_reducible exact k0 | with_reducible exact k2 | with_reducible exact k3 | with_reducible exact k4 | go_keep)
    (first
      | (go_at_call 90; (with_reducible refine (HC.out _ (bl_drew HB1.out)).mono ?_); rintro e w2 ⟨g', M, rfl, hM, htx, ho, hb⟩; (
          have HB2 := Lib.hid (bl_step (bl_drew HB1.out) hb)
          have HBW := Lib.hid hb
          have HS2 := Lib.hid ((HS1.out.later (bl_drew (Below.refl _ _))).later hb)
          have HP2 := Lib.hid ((HP1.out.drawn).later hb)
          have HM := Lib.hid (And.intro hM htx)
          have HO := Lib.hid ho
          have HA := Lib.hid (bl_alloc (Below.refl w2.heap.size w2) (.cells #[.bool poll, .int .i64 fi, .int .i64 sn, .bool false, .bool last, .int .i64 off, .slice (some ⟨g', 0, none⟩) n n, .int .i64 0] 140))
          obtain ⟨w4, hrun, hmp, hturn⟩ := (HS2.out.mp1.later HA.out).put Try.underkm (by have := hk'; have := HK1.out; unfold maxLen; omega) hwf w2.heap.size
          have HMP4 := Lib.hid hmp
          have HTN := Lib.hid hturn
          have HS3 := Lib.hid (HS2.out.later HA.out)
          have HP3 := Lib.hid (HP2.out.later HA.out)
          have hr4 := mRow_turned HS3.out.row hturn (HS3.out.mp1.row_ne HS3.out.row)
          have hp4 := mRow_turned HP3.out hturn (HS3.out.mp1.row_ne HP3.out)
          have HR4 := Lib.hid hr4
          have k2 : w2.cell? ⟨p, 1, none⟩ = some (.map (some m1)) ∧ w2.cell? ⟨w.heap.size, 0, none⟩ = some (.bool poll) ∧ w2.cell? ⟨w.heap.size, 1, none⟩ = some (.int .i64 fi) ∧ w2.cell? ⟨w.heap.size, 2, none⟩ = some (.int .i64 sn) ∧ w2.cell? ⟨w.heap.size, 3, none⟩ = some (.bool false) ∧ w2.cell? ⟨w.heap.size, 4, none⟩ = some (.bool last) ∧ w2.cell? ⟨w.heap.size, 5, none⟩ = some (.int .i64 off) ∧ w2.cell? ⟨w.heap.size, 6, none⟩ = some (.slice A n cap) := ⟨HS2.out.row.read rfl, scells7 HP2.out⟩
          have k3 : (w2.alloc (.cells #[.bool poll, .int .i64 fi, .int .i64 sn, .bool false, .bool last, .int .i64 off, .slice (some ⟨g', 0, none⟩) n n, .int .i64 0] 140)).cell? ⟨p, 1, none⟩ = some (.map (some m1)) ∧ (w2.alloc (.cells #[.bool poll, .int .i64 fi, .int .i64 sn, .bool false, .bool last, .int .i64 off, .slice (some ⟨g', 0, none⟩) n n, .int .i64 0] 140)).cell? ⟨w.heap.size, 0, none⟩ = some (.bool poll) ∧ (w2.alloc (.cells #[.bool poll, .int .i64 fi, .int .i64 sn, .bool false, .bool last, .int .i64 off, .slice (some ⟨g', 0, none⟩) n n, .int .i64 0] 140)).cell? ⟨w.heap.size, 1, none⟩ = some (.int .i64 fi) ∧ (w2.alloc (.cells #[.bool poll, .int .i64 fi, .int .i64 sn, .bool false, .bool last, .int .i64 off, .slice (some ⟨g', 0, none⟩) n n, .int .i64 0] 140)).cell? ⟨w.heap.size, 2, none⟩ = some (.int .i64 sn) ∧ (w2.alloc (.cells #[.bool poll, .int .i64 fi, .int .i64 sn, .bool false, .bool last, .int .i64 off, .slice (some ⟨g', 0, none⟩) n n, .int .i64 0] 140)).cell? ⟨w.heap.size, 3, none⟩ = some (.bool false) ∧ (w2.alloc (.cells #[.bool poll, .int .i64 fi, .int .i64 sn, .bool false, .bool last, .int .i64 off, .slice (some ⟨g', 0, none⟩) n n, .int .i64 0] 140)).cell? ⟨w.heap.size, 4, none⟩ = some (.bool last) ∧ (w2.alloc (.cells #[.bool poll, .int .i64 fi, .int .i64 sn, .bool false, .bool last, .int .i64 off, .slice (some ⟨g', 0, none⟩) n n, .int .i64 0] 140)).cell? ⟨w.heap.size, 5, none⟩ = some (.int .i64 off) ∧ (w2.alloc (.cells #[.bool poll, .int .i64 fi, .int .i64 sn, .bool false, .bool last, .int .i64 off, .slice (some ⟨g', 0, none⟩) n n, .int .i64 0] 140)).cell? ⟨w.heap.size, 6, none⟩ = some (.slice A n cap) := ⟨HS3.out.row.read rfl, scells7 HP3.out⟩
          have k4 : w4.cell? ⟨p, 1, none⟩ = some (.map (some m1)) ∧ w4.cell? ⟨w.heap.size, 0, none⟩ = some (.bool poll) ∧ w4.cell? ⟨w.heap.size, 1, none⟩ = some (.int .i64 fi) ∧ w4.cell? ⟨w.heap.size, 2, none⟩ = some (.int .i64 sn) ∧ w4.cell? ⟨w.heap.size, 3, none⟩ = some (.bool false) ∧ w4.cell? ⟨w.heap.size, 4, none⟩ = some (.bool last) ∧ w4.cell? ⟨w.heap.size, 5, none⟩ = some (.int .i64 off) ∧ w4.cell? ⟨w.heap.size, 6, none⟩ = some (.slice A n cap) := ⟨hr4.read rfl, scells7 hp4⟩
          clear hb hM htx ho hmp hturn hr4 hp4)))
  go_wp2
  go_ret
  have hmp := HMP4.out
  rw [hg] at hmp
  have hin : m1 < w1.heap.size := HS1.out.mp1.inside
  have hsz : w1.heap.size ≤ w2.heap.size := by
    have h5 := HS2.out
    have := HBW.out.size
    simpa using this
  have hon : Only (fun k => k = m1) (w2.alloc (.cells #[.bool poll, .int .i64 fi, .int .i64 sn, .bool false, .bool last, .int .i64 off, .slice (some ⟨g', 0, none⟩) n n, .int .i64 0] 140)) w4 := monly_turned HTN.out rfl
  have hkr := mRow_turned (Row.made w2 140 #[.bool poll, .int .i64 fi, .int .i64 sn, .bool false, .bool last, .int .i64 off, .slice (some ⟨g', 0, none⟩) n n, .int .i64 0]) HTN.out (HS3.out.mp1.row_ne (Row.made w2 140 #[.bool poll, .int .i64 fi, .int .i64 sn, .bool false, .bool last, .int .i64 off, .slice (some ⟨g', 0, none⟩) n n, .int .i64 0]))
  have hor : OwnR (w1.drew).heap.size w4 (.slice (some ⟨g', 0, none⟩) n n) M := OwnR.only (HO.out.later HA.out) hon (fun k hk e => by have := (own_block HO.out.own k hk).1; simp at this; omega) (fun k cs _ hB e => by simp at hB; omega)
  refine ⟨rfl, w2.heap.size, M, HM.out.1, HM.out.2, HB2.out.size, ⟨HR4.out, hmp, HS3.out.mp2.only hon (fun e => HS3.out.ne e.symm), HS3.out.ne⟩, ⟨some ⟨g', 0, none⟩, n, ?_, ?_⟩, ?_⟩
  · rw [HM.out.1]; exact hkr
  · rw [HM.out.1]; exact hor.down HB1.out.size
  · exact (Only.of_below (bl_step HB2.out HA.out)).andThen hon (fun k _ hk => hk)
end
end Go.Proofs.Ytdaipfmckonfpaa
namespace Go.Proofs.Ytdaipfmckonfpaa
open Go.RowKit Go.Maps

/-- what is due: nothing, or a set's spans -/
def DueR (B : Nat) (w : World) (o : Option Nat) (D : List (Int × Int)) : Prop :=
  match o with
  | none => D = []
  | some s => Sits B s D w
/-- a store of one packet; what of it is due, if anything, is a set of spans -/
structure OneR (B : Nat) (w : World) (p m1 m2 g : Nat) (wd fi sn : Int) (poll last : Bool) (off : Int) (M : List RowB) (cnt : Int) (o : Option Nat) (D : List (Int × Int)) : Prop where
  sto : StoR w p m1 m2 wd 1 (if o.isSome then 1 else 0) (fun x => if x = sn then some g else none) (fun x => if x = sn then o else none)
  kept : KeptR B w g fi sn poll last off M cnt
  due : DueR B w o D
  bm1 : B ≤ m1
  bm2 : B ≤ m2
  bg : B ≤ g
  hB : B ≤ w.heap.size
  wf : (Lit.int .i64 sn).wf = true
  few : M.length ≤ 1000
  sum : dataN M ≤ 65536
section
variable {B : Nat} {w v : World} {p m1 m2 g : Nat} {wd fi sn off cnt : Int} {poll last : Bool} {M : List RowB} {o : Option Nat} {D : List (Int × Int)}
theorem OneR.later (h : OneR B w p m1 m2 g wd fi sn poll last off M cnt o D) (hb : Below w.heap.size w v) : OneR B v p m1 m2 g wd fi sn poll last off M cnt o D := by
  refine { h with sto := h.sto.later hb, kept := h.kept.later hb, due := ?_, hB := Nat.le_trans h.hB hb.size }
  have hd := h.due
  cases o with
  | none => exact hd
  | some s => exact Sits.later hd hb
theorem OneR.find (h : OneR B w p m1 m2 g wd fi sn poll last off M cnt o D) : Calls Try.prog 89 #[.pointer (some ⟨p, 0, none⟩), .int .i64 sn] w fun e w' => e = .returned (.pointer (some ⟨g, 0, none⟩)) ∧ w = w' := by
  have := sfind_any h.sto h.wf
  rwa [if_pos rfl] at this
theorem OneR.count (h : OneR B w p m1 m2 g wd fi sn poll last off M cnt o D) : ∃ A c, Row w g 140 #[.bool poll, .int .i64 fi, .int .i64 sn, .bool false, .bool last, .int .i64 off, .slice A M.length c, .int .i64 cnt] := by
  obtain ⟨A, c, h1, _⟩ := h.kept.row
  exact ⟨A, c, h1⟩
set_option maxRecDepth 100000 in
set_option maxHeartbeats 800000 in
theorem scount_any (h : OneR B w p m1 m2 g wd fi sn poll last off M cnt o D) : Calls Try.prog 39 #[.pointer (some ⟨p, 0, none⟩), .int .i64 sn] w fun e w' => e = .returned (.int .i64 cnt) ∧ w = w' := by
  obtain ⟨A, c, hr⟩ := h.count
  have HF := Lib.hid h.find
  have c7 := hr.read (i := 7) rfl
  clear h hr
  go_enter Try.func39, Try.ntmps39
  go_wp2_with (go_at_call 89; (with_reducible refine HF.out.mono ?_); rintro e w1 ⟨rfl, rfl⟩)
  go_ret
  exact ⟨rfl, rfl⟩
/-- what is due, as spans -/
theorem spans_due (h : OneR B w p m1 m2 g wd fi sn poll last off M cnt o D) (hl : D.length ≤ 100000) : Calls Try.prog 96 #[ptrV o] w fun e w' => ∃ A, e = .returned (.slice A D.length D.length) ∧ (0 < D.length → ∃ q, A = some ⟨q, 0, none⟩ ∧ Row w' q 75 (spc D).toArray) ∧ Below w.heap.size w w' := by
  have hd := h.due
  cases o with
  | none =>
    refine (spans_nil w).mono ?_
    rintro e w' ⟨rfl, rfl⟩
    have hd : D = [] := hd
    subst hd
    exact ⟨none, rfl, fun h0 => absurd h0 (by simp), Below.refl _ _⟩
  | some s =>
    refine (sit_spans hd hl).mono ?_
    rintro e w' ⟨rfl, h1, h2⟩
    exact ⟨_, rfl, fun _ => ⟨_, rfl, h1⟩, h2⟩
set_option maxRecDepth 100000 in
set_option maxHeartbeats 800000 in
theorem sdue_any (h : OneR B w p m1 m2 g wd fi sn poll last off M cnt o D) (hl : D.length ≤ 100000) : Calls Try.prog 40 #[.pointer (some ⟨p, 0, none⟩), .int .i64 sn] w fun e w' => ∃ A, e = .returned (.slice A D.length D.length) ∧ (0 < D.length → ∃ q, A = some ⟨q, 0, none⟩ ∧ Row w' q 75 (spc D).toArray) ∧ Below w.heap.size w w' := by
  have HM := Lib.hid (smade_any h.sto)
  have HS := Lib.hid (spans_due h hl)
  have HP := Lib.hid h.sto.mp2
  have hwf := h.wf
  have c2 := h.sto.row.read (i := 2) rfl
  clear h hl
  go_enter Try.func40, Try.ntmps40
  go_wp2_with (first
    | (go_at_call 88; (with_reducible refine HM.out.mono ?_); rintro e w1 ⟨rfl, rfl⟩)
    | (at_lookup; refine wpList_mlook rfl _ _ 133 rfl 144 Try.underdm (zeroS _) rfl HP.out rfl hwf (ptrV o) (by rw [if_pos rfl]) ?_)
    | (go_at_call 96; (with_reducible refine HS.out.mono ?_); rintro e w1 ⟨A, rfl, h1, hb⟩; (have H1 := Lib.hid h1; have HB := Lib.hid hb; clear h1 hb)))
  go_ret
  exact ⟨A, rfl, H1.out, HB.out⟩
end
end Go.Proofs.Ytdaipfmckonfpaa
