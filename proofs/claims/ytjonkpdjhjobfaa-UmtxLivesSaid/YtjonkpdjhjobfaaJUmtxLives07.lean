/-
  cut: which widths may be, how many bytes fields have, how many bytes the next field has. What a queue holds in memory: texts, each with its bytes; a list that may share its memory with an older one. The calls of package queue that only ask, and its small functions. The numbers of a queue's texts; where one stands.
-/
import Derived.Test.YtjonkpdjhjobfaaJUmtxLives06
import Derived.Test.YtjonkpdjhjobfaaJUmtxLives02
import Derived.Test.YtjonkpdjhjobfaaJUmtxLives01
import Derived.Laws.BytesString
import Derived.Laws.IdiomStrings
import Derived.Laws.MakeOwn
import Derived.Deep.RegionLaw
import Derived.Deep.AppendLies
import Derived.Outline
import Derived.ScopeJumps
namespace Go.Proofs.Ytjonkpdjhjobfaa
open Go.RowKit

theorem cutmay_any (x : Int) (w : World) : Calls Try.prog 198 #[.int .i64 x] w fun e w' => e = .returned (.bool (decide (0 < sizeF 1 x))) ∧ w = w' := by
  have HZ := Lib.hid (fun W => size_any 1 x W)
  go_enter Try.func198, Try.ntmps198
  go_wp2_with (go_at_call 187; (with_reducible refine (HZ.out _).mono ?_); rintro e w1 ⟨rfl, rfl⟩)
  go_ret
  exact ⟨rfl, rfl⟩
theorem lens_take_succ {L : List RowB} {k : Nat} {r : RowB} (h : L[k]? = some r) : (lens (L.take (k + 1))).sum = (lens (L.take k)).sum + r.bs.length := by
  obtain ⟨h1, h2⟩ := List.getElem?_eq_some_iff.1 h
  rw [List.take_add_one, h]
  simp [lens]
theorem lens_take_le (L : List RowB) (k : Nat) : (lens (L.take k)).sum ≤ (lens L).sum := by
  have h := List.take_append_drop k L
  have e : (lens L).sum = (lens (L.take k)).sum + (lens (L.drop k)).sum := by
    rw [← List.sum_append]
    unfold lens
    rw [← List.map_append, h]
  omega
set_option maxRecDepth 100000 in
set_option maxHeartbeats 1600000 in
theorem cutsum_any {A : Option Addr} {L : List RowB} (n cap : Nat) (w : World) (hL : L.length = n) (hn : n ≤ 1000) (hs : RSrc w A L) (hsum : (lens L).sum ≤ 1000000) :
    Calls Try.prog 199 #[.slice A n cap] w fun e w' => e = .returned (.int .i64 ((lens L).sum : Nat)) ∧ w = w' := by
  have HS := Lib.hid hs
  have HL := Lib.hid hL
  have HM := Lib.hid (fun k => Nat.le_trans (lens_take_le L k) hsum)
  have HT := Lib.hid (fun (k : Nat) (r : RowB) (h : L[k]? = some r) => lens_take_succ h)
  have HA := Lib.hid (show (lens (L.take n)).sum = (lens L).sum by rw [← hL, List.take_length])
  clear hs hL hsum
  go_enter Try.func199, Try.ntmps199
  go_wp2
  go_loopw [3, 8] (fun s i wr => ∃ k : Nat, k ≤ n ∧ s = .int .i64 ((lens (L.take k)).sum : Nat) ∧ i = .int .i64 k ∧ w = wr) (fun _ i _ => n - (intOf i).toNat)
  case atStart => exact ⟨0, by omega, by simp [lens], rfl, rfl⟩
  case round =>
    obtain ⟨k, hk, rfl, rfl, rfl⟩ := hrel
    by_cases hlt : k < n
    · obtain ⟨ad, rfl, hc⟩ := HS.out (by rw [HL.out]; omega)
      obtain ⟨r, hr⟩ : ∃ r, L[k]? = some r := ⟨_, List.getElem?_eq_getElem (by rw [HL.out]; exact hlt)⟩
      have f0 := (hc k r hr).1
      have HT1 := Lib.hid (HT.out k r hr)
      have b1 := HM.out (k + 1)
      have b0 := HM.out k
      rw [HT1.out] at b1
      have hkI : (k : Int) < (n : Int) := by omega
      unfold RowB.v at f0
      generalize (lens (L.take k)).sum = s at *
      generalize hbl : r.bs.length = bl at *
      clear hc hr
      go_wp2
      go_roundw
      case rel => exact ⟨k + 1, by omega, by rw [HT1.out]; go_num, by go_num, by first | rfl | trivial⟩
      case measure => simp [intOf]; omega
    · have hkn : k = n := by omega
      subst hkn
      have b0 := HM.out k
      rw [HA.out] at *
      go_wp2
      go_ret
      exact ⟨rfl, rfl⟩
/-- how many bytes of what waits the field behind others has -/
def nextF (wl : Nat) (ls : List Nat) (room x : Int) : Int := if 24 ≤ ls.length then 0 else min (wl : Int) (room - (ls.sum : Int) - sizeF ls.length x)
set_option maxRecDepth 100000 in
set_option maxHeartbeats 1600000 in
theorem cutnext_any {A W : Option Addr} {L : List RowB} (wl wc n cap : Nat) (room x : Int) (w : World) (hL : L.length = n) (hn : n ≤ 1000) (hr0 : 0 ≤ room) (hr1 : room ≤ 4000) (hs : RSrc w A L) (hsum : (lens L).sum ≤ 1000000) :
    Calls Try.prog 151 #[.slice W wl wc, .slice A n cap, .int .i64 room, .int .i64 x] w fun e w' => e = .returned (.int .i64 (nextF wl (lens L) room x)) ∧ w = w' := by
  have HSU := Lib.hid (cutsum_any n cap w hL hn hs hsum)
  have HSZ := Lib.hid (fun W => size_any n x W)
  have hz : 0 ≤ sizeF n x ∧ sizeF n x ≤ 46 := sizeF_nonneg n x
  have HLL := Lib.hid (show (lens L).length = n by rw [length_lens, hL])
  by_cases h24 : 24 ≤ n
  · have HF := Lib.hid (show nextF wl (lens L) room x = 0 by unfold nextF; rw [if_pos (by rw [HLL.out]; exact h24)])
    clear hs hsum hL
    go_enter Try.func151, Try.ntmps151
    go_wp2
    go_ret
    exact ⟨by rw [HF.out]; rfl, rfl⟩
  · have HF := Lib.hid (show nextF wl (lens L) room x = min (wl : Int) (room - ((lens L).sum : Int) - sizeF n x) by unfold nextF; rw [if_neg (by rw [HLL.out]; exact h24), HLL.out])
    generalize sizeF n x = z at *
    generalize (lens L).sum = sm at *
    clear hs hL
    go_enter Try.func151, Try.ntmps151
    go_wp2_with (first
      | (go_at_call 199; (with_reducible refine HSU.out.mono ?_); rintro e w1 ⟨rfl, rfl⟩)
      | (go_at_call 187; (with_reducible refine (HSZ.out _).mono ?_); rintro e w1 ⟨rfl, rfl⟩))
    go_ret
    exact ⟨by rw [HF.out]; rfl, rfl⟩
end Go.Proofs.Ytjonkpdjhjobfaa
namespace Go.Proofs.Ytjonkpdjhjobfaa
open Go.RowKit

theorem Try.qinfo5 : (Try.prog.info? 5).map (fun i => (i.zero, i.size, i.bytes)) = some (some (.int .u8 0), 1, 1) := by kernel_rfl
theorem qinfo5_parts : ∃ i, Try.prog.info? 5 = some i ∧ i.zero = some (.int .u8 0) ∧ i.size = 1 ∧ i.bytes = 1 := info_parts Try.qinfo5
theorem Try.info217 : (Try.prog.info? 217).map (fun i => (i.zero, i.size, i.bytes)) = some (some (.agg #[.int .u64 0, .slice none 0 0, .bool false]), 3, 40) := by kernel_rfl
theorem info217_parts : ∃ i, Try.prog.info? 217 = some i ∧ i.zero = some (.agg #[.int .u64 0, .slice none 0 0, .bool false]) ∧ i.size = 3 ∧ i.bytes = 40 := info_parts Try.info217

/-- bytes as values -/
def qbts (l : List Nat) : List Value := l.map fun b : Nat => .int .u8 b
theorem qlength_bts (l : List Nat) : (qbts l).length = l.length := by simp [qbts]
theorem qbts_at {l : List Nat} {i b : Nat} (h : l[i]? = some b) : (qbts l)[i]? = some (.int .u8 b) := by simp [qbts, h]
/-- where a slice's cells lie -/
def QSrcB (w : World) (A : Option Addr) (xs : List Value) : Prop := 0 < xs.length → ∃ b off, A = some ⟨b, off, none⟩ ∧ ∀ j u, xs[j]? = some u → w.cell? ⟨b, off + j, none⟩ = some u
theorem QSrcB.later {w v : World} {A : Option Addr} {xs : List Value} (h : QSrcB w A xs) (hb : Below w.heap.size w v) : QSrcB v A xs := by
  intro h0
  obtain ⟨b, off, rfl, hc⟩ := h h0
  exact ⟨b, off, rfl, fun j u hu => kept_box hb (hc j u hu)⟩

/-- a list of the call's own, whose memory may reach beyond what it can hold -/
def OwnX (w : World) (B e size : Nat) (v : Value) (n : Nat) (xs : List Value) : Prop :=
  xs.length = n * size ∧ ((v = .slice none 0 0 ∧ n = 0) ∨
    ∃ g cap cur, v = .slice (some ⟨g, 0, none⟩) n cap ∧ B ≤ g ∧ w.heap[g]? = some (.cells cur e (0, 0)) ∧ n ≤ cap ∧ cap ≤ maxLen ∧ cap * size ≤ cur.size ∧ cur.toList.take (n * size) = xs)
section
variable {w v : World} {B e size : Nat} {x : Value} {n : Nat} {xs : List Value}
theorem OwnX.nil : OwnX w B e size (.slice none 0 0) 0 [] := ⟨by simp, .inl ⟨rfl, rfl⟩⟩
theorem OwnX.of (h : w.ownsRow B e size x n xs) : OwnX w B e size x n xs := by
  refine ⟨h.1, ?_⟩
  rcases h.2 with h0 | ⟨g, cap, cur, h1, h2, h3, h4, h5, h6, h7⟩
  · exact .inl h0
  · exact .inr ⟨g, cap, cur, h1, h2, h3, h4, h5, by omega, h7⟩
theorem OwnX.lt (h : OwnX w B e size x n xs) : ∀ k, x.ownBlock = some k → B ≤ k ∧ k < w.heap.size := by
  intro k hk
  rcases h.2 with ⟨rfl, _⟩ | ⟨g, cap, cur, rfl, hb, hh, _⟩
  · simp [Value.ownBlock] at hk
  · have e : g = k := by simpa [Value.ownBlock] using hk
    subst e
    refine ⟨hb, ?_⟩
    rcases Nat.lt_or_ge g w.heap.size with h1 | h1
    · exact h1
    · rw [Array.getElem?_eq_none h1] at hh; cases hh
theorem OwnX.only {S : Nat → Prop} (h : OwnX w B e size x n xs) (ho : Only S w v) (hS : ∀ k, x.ownBlock = some k → ¬ S k) : OwnX v B e size x n xs := by
  refine ⟨h.1, ?_⟩
  rcases h.2 with h0 | ⟨g, cap, cur, rfl, hb, hh, h1⟩
  · exact .inl h0
  · exact .inr ⟨g, cap, cur, rfl, hb, (ho.same g (h.lt g rfl).2 (hS g rfl)).trans hh, h1⟩
theorem OwnX.alloc (h : OwnX w B e size x n xs) (o : Obj) : OwnX (w.alloc o) B e size x n xs :=
  h.only (S := fun _ => False) (.of_below (bl_alloc (Below.refl _ _) o)) (fun _ _ h => h)
theorem OwnX.drawn (h : OwnX w B e size x n xs) : OwnX w.drew B e size x n xs := h
theorem OwnX.shape (h : OwnX w B e size x n xs) : ∃ A cap, x = .slice A n cap ∧ n ≤ cap ∧ cap ≤ maxLen := by
  rcases h.2 with ⟨rfl, h0⟩ | ⟨g, cap, cur, rfl, _, _, h1, h2, _⟩
  · exact ⟨none, 0, by rw [h0], by omega, by simp [maxLen]⟩
  · exact ⟨_, cap, rfl, h1, h2⟩
theorem add_zero_q (g j : Nat) : (⟨g, 0, none⟩ : Addr).add j = ⟨g, j, none⟩ := by
  unfold Addr.add
  split
  · rename_i h
    rw [h]
  · simp
theorem OwnX.cells (h : OwnX w B e size x n xs) {g : Nat} (hg : x.ownBlock = some g) : ∀ j u, xs[j]? = some u → w.cell? ⟨g, j, none⟩ = some u := by
  intro j u hu
  rcases h.2 with ⟨rfl, _⟩ | ⟨g', cap, cur, rfl, _, hgg, _, _, _, htake⟩
  · simp [Value.ownBlock] at hg
  · simp [Value.ownBlock] at hg
    subst hg
    rw [cell_of_row w g' j cur e (0, 0) hgg]
    rw [← htake, List.getElem?_take] at hu
    split at hu
    · simpa using hu
    · cases hu
theorem OwnX.free (h : OwnX w B e size x n xs) {g : Nat} (hg : x.ownBlock = some g) (i : Nat) : w.frozen? ⟨g, i, none⟩ = false := by
  rcases h.2 with ⟨rfl, _⟩ | ⟨g', cap, cur, rfl, _, hgg, _⟩
  · simp [Value.ownBlock] at hg
  · simp [Value.ownBlock] at hg
    subst hg
    simp [World.frozen?, hgg]
theorem OwnX.form (h : OwnX w B e size x n xs) (hn : 0 < n) : ∃ g cap, x = .slice (some ⟨g, 0, none⟩) n cap ∧ n ≤ cap ∧ cap ≤ maxLen := by
  rcases h.2 with ⟨_, h0⟩ | ⟨g, cap, cur, hv, _, _, h1, h2, _⟩
  · omega
  · exact ⟨g, cap, hv, h1, h2⟩
/-- one cell written -/
theorem OwnX.stored (h : OwnX w B e size x n xs) {g : Nat} (hg : x.ownBlock = some g) (j : Nat) (u : Value) : OwnX (w.setCell ⟨g, j, none⟩ u) B e size x n (xs.set j u) := by
  refine ⟨by rw [List.length_set]; exact h.1, ?_⟩
  rcases h.2 with ⟨rfl, _⟩ | ⟨g', cap, cur, rfl, hb, hh, h1, h2, h3, h4⟩
  · simp [Value.ownBlock] at hg
  · simp [Value.ownBlock] at hg
    subst hg
    refine .inr ⟨g', cap, cur.setIfInBounds j u, rfl, hb, ?_, h1, h2, by simpa using h3, ?_⟩
    · simp [World.setCell, Array.getElem?_modify, hh]
    · rw [Array.toList_setIfInBounds, List.take_set, h4]
/-- the first elements alone -/
theorem OwnX.front (h : OwnX w B e size x n xs) {m : Nat} (hm : m ≤ n) (A : Option Addr) (cap : Nat) (hx : x = .slice A n cap) (h0 : 0 < n) : OwnX w B e size (.slice A m m) m (xs.take (m * size)) := by
  have hle : m * size ≤ n * size := Nat.mul_le_mul_right _ hm
  refine ⟨by rw [List.length_take, h.1]; omega, ?_⟩
  rcases h.2 with ⟨_, hn⟩ | ⟨g, c, cur, rfl, hb, hh, h1, h2, h3, h4⟩
  · omega
  · injection hx with hA _ _
    subst hA
    have hc : m * size ≤ c * size := Nat.mul_le_mul_right _ (by omega)
    refine .inr ⟨g, m, cur, rfl, hb, hh, Nat.le_refl _, by omega, by omega, ?_⟩
    rw [← h4, List.take_take]
    congr 1
    omega
end

/-- append to such a list -/
theorem run_append_x {P : Program} {w : World} {B t ty e : Nat} {i : TypeInfo} {z : Value} {size bytes : Nat} (ht : P.underlying t = some (.slice e)) (hi : P.info? e = some i) (hz : i.zero = some z)
    (hsize : i.size = size) (hby : i.bytes = bytes) (hzs : z.cells.size = size)
    {v : Value} {n : Nat} {xs : List Value} (hown : OwnX w B e size v n xs)
    (a : Addr) (m c : Nat) (news : List Value) (hl : news.length = m * size) (hnews : ∀ j u, news[j]? = some u → w.cell? (a.add j) = some u) (h1 : ∀ u ∈ news, u.oneCell' = true)
    (h63 : n + m ≤ 1000000000) (hbytes : (n + m) * bytes ≤ 140737488355328) (hbase : B ≤ w.heap.size) :
    ∃ v' w', (Builtin.append_ #[t, t] ty #[v, .slice (some a) m c]).run P w = .ok v' w' ∧ OwnX w' B e size v' (n + m) (xs ++ news) ∧ w.grownBy w' v.ownBlock ∧ (v'.ownBlock = v.ownBlock ∨ v'.ownBlock = some w.heap.size) := by
  subst hsize
  subst hby
  have hlen : (xs ++ news).length = (n + m) * i.size := by rw [List.length_append, hown.1, hl, Nat.add_mul]
  have grown : ∀ (old : Nat), old < n + m → ∀ (row : Option Nat),
      OwnX (w.drew.alloc (.cells (xs.toArray ++ news.toArray ++ Builtin.zeroCells z.cells (grownCap w (n + m) old e - (n + m))) e)) B e i.size
        (.slice (some ⟨w.heap.size, 0, none⟩) (n + m) (grownCap w (n + m) old e)) (n + m) (xs ++ news) ∧
      w.grownBy (w.drew.alloc (.cells (xs.toArray ++ news.toArray ++ Builtin.zeroCells z.cells (grownCap w (n + m) old e - (n + m))) e)) row := by
    intro old ho row
    have hge := grownCap_ge w (n + m) old e
    have hcm : grownCap w (n + m) old e ≤ maxLen := grownCap_le_maxLen w (n + m) old e (by unfold maxLen; omega)
    refine ⟨⟨hlen, .inr ⟨w.heap.size, _, _, rfl, hbase, heap_alloc_new w.drew _, hge, hcm, ?_, ?_⟩⟩, ⟨rfl, rfl, rfl, by simp, fun k hk _ => Below.heap_alloc w.drew _ k hk⟩⟩
    · simp only [Array.size_append, List.size_toArray, size_zeroCells, hzs, hown.1, hl, ← Nat.add_mul]
      exact Nat.mul_le_mul_right _ (by omega)
    · simp only [Array.toList_append, List.append_assoc]
      rw [← List.append_assoc, ← hlen]
      exact List.take_left
  rcases hown.2 with ⟨rfl, rfl⟩ | ⟨g, cap, cur, rfl, hbg, hg, hnc, hcm, hcs, htake⟩
  · have hx : xs = [] := List.eq_nil_of_length_eq_zero (by simpa using hown.1)
    subst hx
    by_cases hm : m = 0
    · subst hm
      have hn : news = [] := List.eq_nil_of_length_eq_zero (by simpa using hl)
      subst hn
      refine ⟨.slice none 0 0, w, ?_, OwnX.nil, ⟨rfl, rfl, rfl, Nat.le_refl _, fun _ _ _ => rfl⟩, .inl rfl⟩
      simp [Builtin.append_, run_underlying ht, sizeOf, typeInfo, hi, Builtin.lenOf, Builtin.firstCells, loadCells, loadCellsFrom]
    · have hr := run_append_nil (P := P) w t ty e i z ht hi hz a m c news hl hnews (by omega) (by omega) (by have hb := hbytes; simp only [Nat.zero_add] at hb; omega)
      have hgr := grown 0 (by omega) (Value.ownBlock (.slice none 0 0))
      simp only [Nat.zero_add, List.nil_append, Array.empty_append] at hgr ⊢
      exact ⟨_, _, hr, hgr.1, hgr.2, .inr rfl⟩
  · by_cases hroom : n + m ≤ cap
    · have hc' : (n + m) * i.size ≤ cap * i.size := Nat.mul_le_mul_right _ hroom
      have hfit : n * i.size + news.length ≤ cur.size := by rw [hl, ← Nat.add_mul]; omega
      have hr := run_append_room (P := P) w t ty e i ht hi g n cap cur hg a m c news hl hnews h1 hroom hfit
      refine ⟨_, _, hr, ⟨hlen, .inr ⟨g, cap, _, rfl, hbg, setRow_heap w g cur _ e _ hg, hroom, hcm, ?_, ?_⟩⟩, ⟨rfl, rfl, rfl, by simp, fun k _ hk => setRow_other w g k _ (fun e => hk (by simp [Value.ownBlock, e]))⟩, .inl rfl⟩
      · simp only [List.size_toArray, List.length_append, List.length_take, List.length_drop, Array.length_toList]
        omega
      · rw [htake, ← hlen]
        exact List.take_left
    · have holds : ∀ j u, xs[j]? = some u → w.cell? ((⟨g, 0, none⟩ : Addr).add j) = some u := fun j u hu => by rw [add_zero_q]; exact hown.cells (g := g) rfl j u hu
      have hr := run_append_grow (P := P) w t ty e i z ht hi hz ⟨g, 0, none⟩ n cap xs hown.1 holds a m c news hl hnews (by omega) (by omega) (growslice_fits (by omega) hbytes)
      have hgr := grown cap (by omega) (Value.ownBlock (.slice (some ⟨g, 0, none⟩) n cap))
      exact ⟨_, _, hr, hgr.1, hgr.2, .inr rfl⟩

/-- a text: its number, where its bytes lie, its bytes, whether some of it was taken -/
structure Txt where
  id : Nat
  g : Nat
  off : Nat
  cap : Nat
  bs : List Nat
  bg : Bool
def Txt.waits (t : Txt) : Value := .slice (some ⟨t.g, t.off, none⟩) t.bs.length t.cap
def txc (ts : List Txt) : List Value := ts.flatMap fun t => [.int .u64 t.id, t.waits, .bool t.bg]
theorem txc_cons (t : Txt) (r : List Txt) : txc (t :: r) = .int .u64 t.id :: t.waits :: .bool t.bg :: txc r := rfl
theorem txc_append (a b : List Txt) : txc (a ++ b) = txc a ++ txc b := by simp [txc]
theorem length_txc (ts : List Txt) : (txc ts).length = ts.length * 3 := by
  induction ts with
  | nil => rfl
  | cons t r ih => rw [txc_cons]; simp [ih]; omega
theorem txc_one (ts : List Txt) : ∀ v ∈ txc ts, v.oneCell' = true := by
  intro v hv
  simp only [txc, List.mem_flatMap] at hv
  obtain ⟨t, _, hv⟩ := hv
  simp at hv
  rcases hv with rfl | rfl | rfl <;> rfl
theorem txc_at {ts : List Txt} {i : Nat} {t : Txt} (h : ts[i]? = some t) : (txc ts)[i * 3]? = some (.int .u64 t.id) ∧ (txc ts)[i * 3 + 1]? = some t.waits ∧ (txc ts)[i * 3 + 2]? = some (.bool t.bg) := by
  induction ts generalizing i with
  | nil => simp at h
  | cons z r ih =>
    cases i with
    | zero => simp at h; subst h; exact ⟨rfl, rfl, rfl⟩
    | succ i =>
      have h2 := ih (i := i) (by simpa using h)
      rw [txc_cons, show (i + 1) * 3 = i * 3 + 1 + 1 + 1 by omega]
      simpa using h2
theorem txc_take (ts : List Txt) (k : Nat) : (txc ts).take (k * 3) = txc (ts.take k) := by
  induction ts generalizing k with
  | nil => simp [txc]
  | cons t r ih =>
    cases k with
    | zero => simp [txc]
    | succ k =>
      rw [txc_cons, show (k + 1) * 3 = k * 3 + 1 + 1 + 1 by omega, List.take_succ_cons, List.take_succ_cons, List.take_succ_cons, ih, List.take_succ_cons, txc_cons]
theorem txc_drop (ts : List Txt) (k : Nat) : (txc ts).drop (k * 3) = txc (ts.drop k) := by
  induction ts generalizing k with
  | nil => simp [txc]
  | cons t r ih =>
    cases k with
    | zero => simp
    | succ k =>
      rw [txc_cons, show (k + 1) * 3 = k * 3 + 1 + 1 + 1 by omega, List.drop_succ_cons, List.drop_succ_cons, List.drop_succ_cons, ih, List.drop_succ_cons]

/-- a text's bytes lie where it says -/
def Txt.lies (B : Nat) (w : World) (t : Txt) : Prop :=
  B ≤ t.g ∧ t.bs.length ≤ t.cap ∧ t.cap ≤ 9223372036854775807 ∧ ∃ cs, Row w t.g 5 cs ∧ ∀ j b, t.bs[j]? = some b → cs[t.off + j]? = some (.int .u8 (b : Nat))
theorem Txt.lies.only {B : Nat} {w v : World} {t : Txt} {S : Nat → Prop} (h : t.lies B w) (ho : Only S w v) (hS : ¬ S t.g) : t.lies B v := by
  obtain ⟨h1, h2, h3, cs, h4, h5⟩ := h
  exact ⟨h1, h2, h3, cs, h4.only ho hS, h5⟩
theorem Txt.lies.src {B : Nat} {w : World} {t : Txt} (h : t.lies B w) : QSrcB w (some ⟨t.g, t.off, none⟩) (qbts t.bs) := by
  obtain ⟨_, _, _, cs, h4, h5⟩ := h
  intro _
  refine ⟨_, _, rfl, fun j u hu => ?_⟩
  have hj : j < t.bs.length := by have := (List.getElem?_eq_some_iff.1 hu).1; rw [qlength_bts] at this; exact this
  have hb := qbts_at (List.getElem?_eq_getElem hj)
  rw [hu] at hb
  injection hb with hb
  rw [hb]
  exact h4.read (h5 j _ (List.getElem?_eq_getElem hj))

/-- the queue at block p has this room, this last number, these texts; all above block B -/
def QRep (B : Nat) (w : World) (p : Nat) (room : Int) (last : Nat) (ts : List Txt) : Prop :=
  B ≤ p ∧ B ≤ w.heap.size ∧ ∃ sv, Row w p 214 #[.int .i64 room, .int .u64 last, sv] ∧ OwnX w B 217 3 sv ts.length (txc ts) ∧ ∀ t ∈ ts, t.lies B w
theorem QRep.only {B : Nat} {w v : World} {p : Nat} {room : Int} {last : Nat} {ts : List Txt} {S : Nat → Prop} (h : QRep B w p room last ts) (ho : Only S w v) (hS : ∀ k, S k → k < B) : QRep B v p room last ts := by
  obtain ⟨h1, h2, sv, h3, h4, h5⟩ := h
  exact ⟨h1, by have := ho.size; omega, sv, h3.only ho (fun hk => by have := hS _ hk; omega), h4.only ho (fun k hk hk' => by have := (h4.lt k hk).1; have := hS _ hk'; omega), fun t ht => (h5 t ht).only ho (fun hk => by have := hS _ hk; have := (h5 t ht).1; omega)⟩
theorem QRep.later {B : Nat} {w v : World} {p : Nat} {room : Int} {last : Nat} {ts : List Txt} (h : QRep B w p room last ts) (hb : Below w.heap.size w v) : QRep B v p room last ts :=
  h.only (S := fun _ => False) (.of_below hb) (fun _ h => h.elim)
end Go.Proofs.Ytjonkpdjhjobfaa
namespace Go.Proofs.Ytjonkpdjhjobfaa
open Go.RowKit

theorem wpList_append_is {P : Program} {w : World} {ops : Array Oper} {rest : List Oper} {o : Oper} {a : Act} {Q : Exit → Act → World → Prop} (hgd : o.guard = none) (s x : Operand) (t : TypeId)
    (ho : o.op = .call { callee := .builtin .append, args := #[s, x], argTypes := #[t, t] }) (v u : Value) (hs : a.eval s = v) (hx : a.eval x = u) {v' : Value} {w' : World}
    (hr : (Builtin.append_ #[t, t] o.type #[v, u]).run P w = .ok v' w') (h : wpList P ops Q rest (a.put o.dst v') w') : wpList P ops Q (o :: rest) a w :=
  wpList_plain hgd fun _ hK => by
    unfold Oper.wp execOp
    simp only [ho, resolve, invoke, builtin, Sem.run_bind, Sem.run_pure, Result.andThen_ok, List.map_toArray, List.map_cons, List.map_nil, hs, hx, hr]
    exact hK _ _ h

set_option maxHeartbeats 400000 in
theorem none_nil (w : World) : Calls Try.prog 147 #[.pointer none] w fun e w' => e = .returned (.bool true) ∧ w = w' := by
  go_enter Try.func147, Try.ntmps147
  go_wp2
  go_ret
  exact ⟨rfl, rfl⟩
set_option maxHeartbeats 400000 in
theorem none_zero {p : Nat} {w : World} {a b : Value} (h : Row w p 214 #[.int .i64 0, a, b]) : Calls Try.prog 147 #[.pointer (some ⟨p, 0, none⟩)] w fun e w' => e = .returned (.bool true) ∧ w = w' := by
  have c0 := h.read (i := 0) rfl
  clear h
  go_enter Try.func147, Try.ntmps147
  go_wp2
  go_ret
  exact ⟨rfl, rfl⟩
set_option maxHeartbeats 400000 in
theorem none_not {p : Nat} {room : Int} {w : World} {a b : Value} (h : Row w p 214 #[.int .i64 room, a, b]) (hr : 0 < room) : Calls Try.prog 147 #[.pointer (some ⟨p, 0, none⟩)] w fun e w' => e = .returned (.bool false) ∧ w = w' := by
  have c0 := h.read (i := 0) rfl
  have h0 : (room == 0) = false := by simp; omega
  clear h
  go_enter Try.func147, Try.ntmps147
  go_wp2
  go_ret
  exact ⟨rfl, rfl⟩

/-- new memory with these bytes -/
def Fresh (w : World) (l : List Nat) (g : Nat) (w' : World) : Prop := w.heap.size ≤ g ∧ (∃ cs : Array Value, Row w' g 5 cs ∧ ∀ (j b : Nat), l[j]? = some b → cs[j]? = some (Value.int .u8 (b : Nat))) ∧ Below w.heap.size w w'
def CopyDone (l : List Nat) (w : World) (e : Ending) (w' : World) : Prop := ∃ g, e = .returned (.slice (some ⟨g, 0, none⟩) l.length l.length) ∧ Fresh w l g w'

theorem copy_fresh {w : World} {A : Option Addr} {c : Nat} {l : List Nat} (hs : QSrcB w A (qbts l)) (h0 : 0 < l.length) (hn : l.length ≤ 1000000) :
    ∃ cap w', (Builtin.append_ #[38, 38] 38 #[.slice none 0 0, .slice A l.length c]).run Try.prog w = .ok (.slice (some ⟨w.heap.size, 0, none⟩) l.length cap) w' ∧ l.length ≤ cap ∧ cap ≤ maxLen ∧ Fresh w l w.heap.size w' := by
  obtain ⟨i, hi, hz, hsz, hb⟩ := qinfo5_parts
  obtain ⟨b, off, rfl, hc⟩ := hs (by rw [qlength_bts]; exact h0)
  have hr := run_append_nil (P := Try.prog) w 38 38 5 i _ Try.underlying38 hi hz ⟨b, off, none⟩ l.length c (qbts l) (by rw [hsz, Nat.mul_one, qlength_bts])
    (fun j u hu => by
      have := hc j u hu
      have e : (⟨b, off, none⟩ : Addr).add j = ⟨b, off + j, none⟩ := by
        unfold Addr.add
        split
        · rename_i h; rw [h]; rfl
        · rfl
      rw [e]; exact this) h0 (by omega) (by rw [hb]; omega)
  refine ⟨_, _, hr, grownCap_ge _ _ _ _, grownCap_le_maxLen _ _ _ _ (by unfold maxLen; omega), Nat.le_refl _, ⟨_, heap_alloc_new w.drew _, fun j x hx => ?_⟩, bl_alloc (bl_drew (Below.refl _ _)) _⟩
  have h1 := qbts_at hx
  have hl : j < (qbts l).length := (List.getElem?_eq_some_iff.1 h1).1
  rw [Array.getElem?_append_left (by simpa using hl)]
  simpa using h1

set_option maxHeartbeats 800000 in
theorem qcopied_any (A : Option Addr) (c : Nat) (l : List Nat) (w : World) (hs : QSrcB w A (qbts l)) (h0 : 0 < l.length) (hn : l.length ≤ 1000000) :
    Calls Try.prog 148 #[.slice A l.length c] w (CopyDone l w) := by
  obtain ⟨cap, w1, hr, hc1, hc2, hf⟩ := copy_fresh (c := c) hs h0 hn
  have HF : Hid (CopyDone l w (.returned (.slice (some ⟨w.heap.size, 0, none⟩) l.length l.length)) w1) := Lib.hid ⟨_, rfl, hf⟩
  have HR := Lib.hid hr
  unfold maxLen at hc2
  clear hr hf hs
  go_enter Try.func148, Try.ntmps148
  go_wp2_with (at_builtin; refine wpList_append_is rfl (.const (.slice none 0 0)) (.tmp 4) 38 rfl _ _ rfl rfl HR.out ?_)
  go_ret
  exact HF.out

set_option maxHeartbeats 400000 in
theorem qnew_any (B : Nat) (room : Int) (w : World) (hB : B ≤ w.heap.size) (h1 : 1 ≤ room) (h2 : room ≤ 20000) :
    Calls Try.prog 78 #[.int .i64 room] w fun e w' => e = .returned (.tuple #[.pointer (some ⟨w.heap.size, 0, none⟩), .int .i64 0]) ∧ QRep B w' w.heap.size room 0 [] ∧ Below w.heap.size w w' := by
  go_enter Try.func78, Try.ntmps78
  go_wp2
  go_ret2
  exact ⟨rfl, ⟨hB, by simp; omega, _, Row.made _ _ _, OwnX.nil, fun t h => by cases h⟩, bl_alloc (Below.refl _ _) _⟩
/-- how many bytes wait -/
def bytesF (ts : List Txt) : Nat := ts.foldl (fun n t => n + t.bs.length) 0
theorem bytesF_acc (n : Nat) (ts : List Txt) : ts.foldl (fun n t => n + t.bs.length) n = n + bytesF ts := by
  unfold bytesF
  induction ts generalizing n with
  | nil => simp
  | cons t r ih => rw [List.foldl_cons, List.foldl_cons, ih, ih (0 + _)]; omega
theorem bytesF_cons (t : Txt) (r : List Txt) : bytesF (t :: r) = t.bs.length + bytesF r := by
  have := bytesF_acc (0 + t.bs.length) r
  unfold bytesF at *
  rw [List.foldl_cons, this]
  omega
theorem bytesF_append (a b : List Txt) : bytesF (a ++ b) = bytesF a + bytesF b := by
  unfold bytesF
  rw [List.foldl_append]
  exact bytesF_acc _ b
theorem bytesF_snoc (ts : List Txt) (t : Txt) : bytesF (ts ++ [t]) = bytesF ts + t.bs.length := by rw [bytesF_append]; simp [bytesF]
theorem bytesF_take (ts : List Txt) (k : Nat) : bytesF (ts.take k) ≤ bytesF ts := by
  have h := bytesF_append (ts.take k) (ts.drop k)
  rw [List.take_append_drop] at h
  omega
theorem q_take_snoc {α : Type} {L : List α} {k : Nat} {y : α} (h : L[k]? = some y) : L.take (k + 1) = L.take k ++ [y] := by
  rw [List.take_add_one, h]
  rfl

set_option maxRecDepth 100000 in
set_option maxHeartbeats 1600000 in
theorem qbytes_any {B p last : Nat} {room : Int} {ts : List Txt} {w : World} (h : QRep B w p room last ts) (hr : 0 < room) (hb : bytesF ts ≤ 1000000000) :
    Calls Try.prog 89 #[.pointer (some ⟨p, 0, none⟩)] w fun e w' => e = .returned (.int .i64 (bytesF ts : Nat)) ∧ Below w.heap.size w w' := by
  obtain ⟨hB, hB2, sv, hrow, hown, hl⟩ := h
  have c2 : w.cell? ⟨p, 2, none⟩ = some sv := hrow.read rfl
  have HROW := Lib.hid hrow
  have HOWN := Lib.hid hown
  have HL := Lib.hid hl
  have HT := Lib.hid (bytesF_take ts)
  obtain ⟨A, cap, rfl, hcap, hmx⟩ := hown.shape
  unfold maxLen at hmx
  clear hrow hown hl
  go_enter Try.func89, Try.ntmps89
  go_wp2_with (go_at_call 147; refine (none_not HROW.out hr).mono ?_; rintro e _ ⟨rfl, rfl⟩)
  go_loopw [3, 13] (fun n i wr => ∃ k : Nat, k ≤ ts.length ∧ i = .int .i64 k ∧ n = .int .i64 (bytesF (ts.take k) : Nat) ∧ Below w.heap.size w wr) (fun _ i _ => ts.length - (intOf i).toNat)
  case atStart => exact ⟨0, by omega, rfl, rfl, Below.refl _ _⟩
  case round =>
    obtain ⟨k, hk, rfl, rfl, hbr⟩ := hrel
    have HBR := Lib.hid hbr
    clear hbr
    by_cases hlt : k < ts.length
    · obtain ⟨t, ht⟩ : ∃ t, ts[k]? = some t := ⟨_, List.getElem?_eq_getElem hlt⟩
      obtain ⟨g, cap', hv, hc1, hc2⟩ := HOWN.out.form (by omega)
      injection hv with hA _ hcc
      subst hA
      subst hcc
      have hcell := HOWN.out.cells (g := g) rfl
      obtain ⟨a0, a1, a2⟩ := txc_at ht
      have d0 := kept_box HBR.out (hcell _ _ a0)
      have d1 := kept_box HBR.out (hcell _ _ a1)
      have d2 := kept_box HBR.out (hcell _ _ a2)
      have hsum : bytesF (ts.take (k + 1)) = bytesF (ts.take k) + t.bs.length := by rw [q_take_snoc ht, bytesF_snoc]
      have hle := HT.out (k + 1)
      have HS := Lib.hid hsum
      rw [hsum] at hle
      obtain ⟨l1, l2, l3, _⟩ := HL.out t (List.mem_of_getElem? ht)
      clear hcell a0 a1 a2 hsum ht hc1 hc2
      unfold Txt.waits at d1
      have hi0 : (0 : Int) ≤ (k : Int) := by omega
      have hi1 : (k : Int) < (ts.length : Int) := by omega
      go_wp2
      go_roundw
      case rel => exact ⟨k + 1, by omega, by go_num, by rw [HS.out]; go_num, bl_alloc HBR.out _⟩
      case measure => simp [intOf]; omega
    · obtain rfl : k = ts.length := by omega
      have HE := Lib.hid (show bytesF (ts.take ts.length) = bytesF ts by rw [List.take_length])
      go_wp2
      go_ret
      exact ⟨ret_int (by rw [HE.out]), HBR.out⟩
end Go.Proofs.Ytjonkpdjhjobfaa
namespace Go.Proofs.Ytjonkpdjhjobfaa
open Go.RowKit

theorem Try.info35 : (Try.prog.info? 35).map (fun i => (i.zero, i.size, i.bytes)) = some (some (.int .u64 0), 1, 8) := by kernel_rfl
theorem info35_parts : ∃ i, Try.prog.info? 35 = some i ∧ i.zero = some (.int .u64 0) ∧ i.size = 1 ∧ i.bytes = 8 := info_parts Try.info35

def idv (ts : List Txt) : List Value := ts.map fun t => .int .u64 t.id
theorem length_idv (ts : List Txt) : (idv ts).length = ts.length := by simp [idv]
def zero64 (n : Nat) : List Value := List.replicate n (.int .u64 0)
theorem make_ids (n : Nat) (h : n ≤ 1000000) (w : World) :
    (Instr.makeSlice 39 (.int .i64 (n : Int)) (.int .i64 (n : Int))).run Try.prog w = .ok (.slice (some ⟨w.heap.size, 0, none⟩) n n) (w.alloc (.cells (zero64 n).toArray 35)) := by
  obtain ⟨i, hi, hz, hs, hb⟩ := info35_parts
  have h := run_make (P := Try.prog) w 39 35 i _ Try.underlying39 hi hz .i64 .i64 n n (by omega) (Int.le_refl _) (by rw [hb]; omega) (by omega)
  rw [h, hs, Nat.mul_one, Int.toNat_natCast]
  have e : madeCells #[.int .u64 0] n = (zero64 n).toArray := by
    apply Array.toList_inj.1
    rw [toList_madeCells_one]
    simp [zero64]
  rw [← e]
  rfl
/-- the numbers so far, noughts behind -/
def idPart (ts : List Txt) (k : Nat) : List Value := idv (ts.take k) ++ zero64 (ts.length - k)
theorem idPart_step {ts : List Txt} {k : Nat} {t : Txt} (h : ts[k]? = some t) : (idPart ts k).set k (.int .u64 t.id) = idPart ts (k + 1) := by
  have hk : k < ts.length := (List.getElem?_eq_some_iff.1 h).1
  unfold idPart
  rw [q_take_snoc h]
  have e1 : (idv (ts.take k)).length = k := by rw [length_idv]; simp; omega
  have e2 : ts.length - k = (ts.length - (k + 1)) + 1 := by omega
  rw [e2]
  unfold zero64
  rw [List.replicate_succ, List.set_append_right _ _ (by omega), e1, Nat.sub_self, List.set_cons_zero]
  simp [idv]
theorem idPart_end (ts : List Txt) : idPart ts ts.length = idv ts := by simp [idPart, zero64]

/-- numbers handed out -/
def IdsDone (ts : List Txt) (w : World) (e : Ending) (w' : World) : Prop := ∃ g, e = .returned (.slice (some ⟨g, 0, none⟩) ts.length ts.length) ∧ w.heap.size ≤ g ∧ Row w' g 35 (idv ts).toArray ∧ Below w.heap.size w w'

set_option maxRecDepth 100000 in
set_option maxHeartbeats 1600000 in
theorem ids_any {B p last : Nat} {room : Int} {ts : List Txt} {w : World} (h : QRep B w p room last ts) (hr : 0 < room) (hl : ts.length ≤ 100000) :
    Calls Try.prog 167 #[.pointer (some ⟨p, 0, none⟩)] w (IdsDone ts w) := by
  obtain ⟨hB, hB2, sv, hrow, hown, _⟩ := h
  have c2 : w.cell? ⟨p, 2, none⟩ = some sv := hrow.read rfl
  have hrow2 := hrow.more (.cells (zero64 ts.length).toArray 35)
  have c3 : (w.alloc (.cells (zero64 ts.length).toArray 35)).cell? ⟨p, 2, none⟩ = some sv := hrow2.read rfl
  have HROW := Lib.hid hrow
  have HOWN := Lib.hid hown
  have hmk := make_ids ts.length (by omega) w
  have hr0 := Row.made w 35 (zero64 ts.length).toArray
  have HR0 := Lib.hid (show Row (w.alloc (.cells (zero64 ts.length).toArray 35)) w.heap.size 35 (idPart ts 0).toArray from by simpa [idPart, idv] using hr0)
  have HB0 := Lib.hid (bl_alloc (Below.refl w.heap.size w) (.cells (zero64 ts.length).toArray 35))
  obtain ⟨A, cap, rfl, hcap, hmx⟩ := hown.shape
  unfold maxLen at hmx
  clear hrow hown hrow2 hr0
  go_enter Try.func167, Try.ntmps167
  go_wp2_with (go_at_call 147; refine (none_not HROW.out hr).mono ?_; rintro e _ ⟨rfl, rfl⟩)
  go_loopw [19] (fun i wr => ∃ k : Nat, k ≤ ts.length ∧ i = .int .i64 k ∧ Row wr w.heap.size 35 (idPart ts k).toArray ∧ Below w.heap.size w wr) (fun i _ => ts.length - (intOf i).toNat)
  case atStart => exact ⟨0, by omega, rfl, HR0.out, HB0.out⟩
  case round =>
    obtain ⟨k, hk, rfl, hrw, hbr⟩ := hrel
    have HBR := Lib.hid hbr
    by_cases hlt : k < ts.length
    · obtain ⟨t, ht⟩ : ∃ t, ts[k]? = some t := ⟨_, List.getElem?_eq_getElem hlt⟩
      obtain ⟨g, cap', hv, hc1, hc2⟩ := HOWN.out.form (by omega)
      injection hv with hA _ hcc
      subst hA
      subst hcc
      have hcell := HOWN.out.cells (g := g) rfl
      obtain ⟨a0, a1, a2⟩ := txc_at ht
      have d0 := kept_box HBR.out (hcell _ _ a0)
      have d1 := kept_box HBR.out (hcell _ _ a1)
      have d2 := kept_box HBR.out (hcell _ _ a2)
      unfold Txt.waits at d1
      have hrw2 := hrw.more (.cells #[.int .u64 t.id, .slice (some ⟨t.g, t.off, none⟩) t.bs.length t.cap, .bool t.bg] 217)
      have e1 : (idPart ts k).length = ts.length := by unfold idPart; rw [List.length_append, length_idv]; simp [zero64]; omega
      have hsome : ∃ x, (idPart ts k).toArray[k]? = some x := ⟨_, Array.getElem?_eq_getElem (by simp; omega)⟩
      obtain ⟨x, hx⟩ := hsome
      have cz := hrw2.read hx
      have fz := hrw2.free k
      have hst := hrw2.written k (.int .u64 t.id)
      have HST := Lib.hid (show Row ((wr.alloc (.cells #[.int .u64 t.id, .slice (some ⟨t.g, t.off, none⟩) t.bs.length t.cap, .bool t.bg] 217)).setCell ⟨w.heap.size, k, none⟩ (.int .u64 t.id)) w.heap.size 35 (idPart ts (k + 1)).toArray from by
        rw [← idPart_step ht]; simpa using hst)
      have HBN := Lib.hid (((Only.of_below (S := fun k => k = w.heap.size) HBR.out).alloc (.cells #[.int .u64 t.id, .slice (some ⟨t.g, t.off, none⟩) t.bs.length t.cap, .bool t.bg] 217)).set (p := ⟨w.heap.size, k, none⟩) (.inl rfl) (.int .u64 t.id) |>.below (Nat.le_refl _) (fun k hk hh => by omega))
      clear hcell a0 a1 a2 ht hc1 hc2 hrw hrw2 hst hx hbr e1
      have hi0 : (0 : Int) ≤ (k : Int) := by omega
      have hi1 : (k : Int) < (ts.length : Int) := by omega
      go_wp2
      go_roundw
      case rel => exact ⟨k + 1, by omega, by go_num, HST.out, HBN.out⟩
      case measure => simp [intOf]; omega
    · obtain rfl : k = ts.length := by omega
      rw [idPart_end] at hrw
      have HF : Hid (IdsDone ts w (.returned (.slice (some ⟨w.heap.size, 0, none⟩) ts.length ts.length)) wr) := Lib.hid ⟨_, rfl, Nat.le_refl _, hrw, HBR.out⟩
      clear hrw hbr
      go_wp2
      go_ret
      exact HF.out

/-- where the text of a number stands -/
def placeF (id : Nat) (ts : List Txt) : Nat := ts.findIdx fun t => t.id == id
theorem placeF_le (id : Nat) (ts : List Txt) : placeF id ts ≤ ts.length := List.findIdx_le_length
theorem place_before {id k : Nat} {ts : List Txt} {t : Txt} (h : ts[k]? = some t) (hk : k < placeF id ts) : t.id ≠ id := by
  have hlt : k < ts.length := (List.getElem?_eq_some_iff.1 h).1
  have := List.not_of_lt_findIdx (p := fun t : Txt => t.id == id) hk
  have e : ts[k] = t := (List.getElem?_eq_some_iff.1 h).2
  rw [e] at this
  simpa using this
theorem place_at {id : Nat} {ts : List Txt} {t : Txt} (h : ts[placeF id ts]? = some t) : t.id = id := by
  have hlt : placeF id ts < ts.length := (List.getElem?_eq_some_iff.1 h).1
  have := List.findIdx_getElem (p := fun t : Txt => t.id == id) (w := hlt)
  have e : ts[placeF id ts] = t := (List.getElem?_eq_some_iff.1 h).2
  unfold placeF at e
  rw [e] at this
  simpa using this

set_option maxRecDepth 100000 in
set_option maxHeartbeats 1600000 in
theorem place_any {B p last id : Nat} {room : Int} {ts : List Txt} {w : World} (h : QRep B w p room last ts) :
    Calls Try.prog 165 #[.pointer (some ⟨p, 0, none⟩), .int .u64 id] w fun e w' => e = .returned (.int .i64 (placeF id ts : Nat)) ∧ w = w' := by
  obtain ⟨hB, hB2, sv, hrow, hown, _⟩ := h
  have c2 : w.cell? ⟨p, 2, none⟩ = some sv := hrow.read rfl
  have HOWN := Lib.hid hown
  obtain ⟨A, cap, rfl, hcap, hmx⟩ := hown.shape
  unfold maxLen at hmx
  have hple := placeF_le id ts
  clear hrow hown
  have step : ∀ k, k ≤ placeF id ts → (k = placeF id ts ∧ (k = ts.length ∨ ∃ t g, ts[k]? = some t ∧ t.id = id ∧ A = some ⟨g, 0, none⟩ ∧ w.cell? ⟨g, k * 3, none⟩ = some (.int .u64 t.id))) ∨
      (k < placeF id ts ∧ ∃ t g, ts[k]? = some t ∧ t.id ≠ id ∧ A = some ⟨g, 0, none⟩ ∧ w.cell? ⟨g, k * 3, none⟩ = some (.int .u64 t.id)) := by
    intro k hk
    rcases Nat.lt_or_ge k ts.length with hlt | hge
    · obtain ⟨t, ht⟩ : ∃ t, ts[k]? = some t := ⟨_, List.getElem?_eq_getElem hlt⟩
      obtain ⟨g, cap', hv, hc1, hc2⟩ := HOWN.out.form (by omega)
      injection hv with hA _ hcc
      have hcell := HOWN.out.cells (g := g) (by rw [hA]; rfl)
      obtain ⟨a0, _, _⟩ := txc_at ht
      have d0 := hcell _ _ a0
      rcases Nat.lt_or_ge k (placeF id ts) with h1 | h1
      · exact .inr ⟨h1, t, g, ht, place_before ht h1, hA, d0⟩
      · obtain rfl : k = placeF id ts := by omega
        exact .inl ⟨rfl, .inr ⟨t, g, ht, place_at ht, hA, d0⟩⟩
    · exact .inl ⟨by omega, .inl (by omega)⟩
  have HSTEP := Lib.hid step
  clear step
  generalize placeF id ts = P at *
  go_enter Try.func165, Try.ntmps165
  go_wp2
  refine wp_scope_jumps 0 (fun a' w' => ∃ k : Nat, k ≤ P ∧ Fr [some (.pointer (some ⟨p, 0, none⟩)), some (.int .u64 id), none, none, none, some (.int .i64 k), none, none, none, none, none, none, none, none, none, none, none, none, none, none, none, none, none, none, none, none, none, none] a' ∧ w' = w) (fun a' _ => P - (intOf (a'.tmps.getD 5 undef)).toNat) rfl ?_ ?_
  · rcases HSTEP.out 0 (by omega) with ⟨h1, h2 | ⟨t, g, ht, hid, rfl, d0⟩⟩ | ⟨h1, t, g, ht, hid, rfl, d0⟩
    · have h1a : P ≤ 0 := by omega
      have h2a : ts.length ≤ 0 := by omega
      clear h1 h2
      go_wp2
      go_step3
      go_wp2
      simp only [Exit.jump]
      go_ret
      exact ⟨ret_int (by omega), rfl⟩
    · have hlt : 0 < ts.length := (List.getElem?_eq_some_iff.1 ht).1
      have hne : ((t.id : Int) != (id : Int)) = false := by simp; omega
      simp only [Nat.zero_mul] at d0
      have h1a : P ≤ 0 := by omega
      clear ht hid h1
      go_wp2
      go_step3
      go_wp2
      simp only [Exit.jump]
      go_ret
      exact ⟨ret_int (by omega), rfl⟩
    · have hlt : 0 < ts.length := (List.getElem?_eq_some_iff.1 ht).1
      have hne : ((t.id : Int) != (id : Int)) = true := by simp; omega
      simp only [Nat.zero_mul] at d0
      clear ht hid
      go_wp2
      go_step3
      go_wp2
      go_step3
      refine ⟨rfl, 1, by omega, ?_, rfl⟩
      simp only [Fr, Holes]
      repeat apply Exists.intro
      rfl
  · rintro a' w' ⟨k, hk, hfr, rfl⟩
    simp only [Fr, Holes] at hfr
    repeat (obtain ⟨_, hfr⟩ := hfr)
    rcases HSTEP.out k hk with ⟨h1, h2 | ⟨t, g, ht, hid, rfl, d0⟩⟩ | ⟨h1, t, g, ht, hid, rfl, d0⟩
    · have h1a : P ≤ k := by omega
      have h2a : ts.length ≤ k := by omega
      clear h1 h2
      go_wp2
      simp only [Exit.jump]
      go_ret
      exact ⟨ret_int (by omega), rfl⟩
    · have hlt : k < ts.length := (List.getElem?_eq_some_iff.1 ht).1
      have hne : ((t.id : Int) != (id : Int)) = false := by simp; omega
      have hi0 : (0 : Int) ≤ (k : Int) := by omega
      have hi1 : (k : Int) < (ts.length : Int) := by omega
      have h1a : P ≤ k := by omega
      clear ht hid h1
      go_wp2
      simp only [Exit.jump]
      go_ret
      exact ⟨ret_int (by omega), rfl⟩
    · have hlt : k < ts.length := (List.getElem?_eq_some_iff.1 ht).1
      have hne : ((t.id : Int) != (id : Int)) = true := by simp; omega
      have hi0 : (0 : Int) ≤ (k : Int) := by omega
      have hi1 : (k : Int) < (ts.length : Int) := by omega
      clear ht hid
      go_wp2
      go_step3
      refine ⟨rfl, ⟨k + 1, by omega, ?_, rfl⟩, ?_⟩
      · simp only [Fr, Holes]
        repeat apply Exists.intro
        rfl
      · simp [intOf]; omega
end Go.Proofs.Ytjonkpdjhjobfaa
