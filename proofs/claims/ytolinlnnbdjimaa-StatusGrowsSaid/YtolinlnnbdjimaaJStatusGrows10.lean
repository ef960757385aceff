/-
  The calls of package queue that only ask, and its small functions. An append whose run is known, at a drawn region. The document's queue: a text pushed (the steps of its drawn region). status: a status is read: what stands at the jump. status: a status is read: its bytes, or why they are none.
-/
import Derived.Test.YtolinlnnbdjimaaJStatusGrows09
import Derived.Laws.MakeOwn
import Derived.Deep.RegionLaw
import Derived.Deep.AppendLies
import Derived.Outline
import Derived.Test.YtolinlnnbdjimaaJStatusGrows01
import Derived.Test.YtolinlnnbdjimaaJStatusGrows04
import Derived.BigRegion
namespace Go.Proofs.Ytolinlnnbdjimaa
open Go.RowKit

theorem wpList_append_is {P : Program} {w : World} {ops : Array Oper} {rest : List Oper} {o : Oper} {a : Act} {Q : Exit → Act → World → Prop} (hgd : o.guard = none) (s x : Operand) (t : TypeId)
    (ho : o.op = .call { callee := .builtin .append, args := #[s, x], argTypes := #[t, t] }) (v u : Value) (hs : a.eval s = v) (hx : a.eval x = u) {v' : Value} {w' : World}
    (hr : (Builtin.append_ #[t, t] o.type #[v, u]).run P w = .ok v' w') (h : wpList P ops Q rest (a.put o.dst v') w') : wpList P ops Q (o :: rest) a w :=
  wpList_plain hgd fun _ hK => by
    unfold Oper.wp execOp
    simp only [ho, resolve, invoke, builtin, Sem.run_bind, Sem.run_pure, Result.andThen_ok, List.map_toArray, List.map_cons, List.map_nil, hs, hx, hr]
    exact hK _ _ h

set_option maxHeartbeats 400000 in
theorem none_nil (w : World) : Calls Try.prog 199 #[.pointer none] w fun e w' => e = .returned (.bool true) ∧ w = w' := by
  go_enter Try.func199, Try.ntmps199
  go_wp2
  go_ret
  exact ⟨rfl, rfl⟩
set_option maxHeartbeats 400000 in
theorem none_zero {p : Nat} {w : World} {a b : Value} (h : Row w p 253 #[.int .i64 0, a, b]) : Calls Try.prog 199 #[.pointer (some ⟨p, 0, none⟩)] w fun e w' => e = .returned (.bool true) ∧ w = w' := by
  have c0 := h.read (i := 0) rfl
  clear h
  go_enter Try.func199, Try.ntmps199
  go_wp2
  go_ret
  exact ⟨rfl, rfl⟩
set_option maxHeartbeats 400000 in
theorem none_not {p : Nat} {room : Int} {w : World} {a b : Value} (h : Row w p 253 #[.int .i64 room, a, b]) (hr : 0 < room) : Calls Try.prog 199 #[.pointer (some ⟨p, 0, none⟩)] w fun e w' => e = .returned (.bool false) ∧ w = w' := by
  have c0 := h.read (i := 0) rfl
  have h0 : (room == 0) = false := by simp; omega
  clear h
  go_enter Try.func199, Try.ntmps199
  go_wp2
  go_ret
  exact ⟨rfl, rfl⟩

/-- new memory with these bytes -/
def Fresh (w : World) (l : List Nat) (g : Nat) (w' : World) : Prop := w.heap.size ≤ g ∧ (∃ cs : Array Value, Row w' g 5 cs ∧ ∀ (j b : Nat), l[j]? = some b → cs[j]? = some (Value.int .u8 (b : Nat))) ∧ Below w.heap.size w w'
def CopyDone (l : List Nat) (w : World) (e : Ending) (w' : World) : Prop := ∃ g, e = .returned (.slice (some ⟨g, 0, none⟩) l.length l.length) ∧ Fresh w l g w'

theorem copy_fresh {w : World} {A : Option Addr} {c : Nat} {l : List Nat} (hs : QSrcB w A (qbts l)) (h0 : 0 < l.length) (hn : l.length ≤ 1000000) :
    ∃ cap w', (Builtin.append_ #[37, 37] 37 #[.slice none 0 0, .slice A l.length c]).run Try.prog w = .ok (.slice (some ⟨w.heap.size, 0, none⟩) l.length cap) w' ∧ l.length ≤ cap ∧ cap ≤ maxLen ∧ Fresh w l w.heap.size w' := by
  obtain ⟨i, hi, hz, hsz, hb⟩ := qinfo5_parts
  obtain ⟨b, off, rfl, hc⟩ := hs (by rw [qlength_bts]; exact h0)
  have hr := run_append_nil (P := Try.prog) w 37 37 5 i _ Try.underlying37 hi hz ⟨b, off, none⟩ l.length c (qbts l) (by rw [hsz, Nat.mul_one, qlength_bts])
    (fun j u hu => by
      have := hc j u hu
      have e : (⟨b, off, none⟩ : Addr).add j = ⟨b, off + j, none⟩ := by
        unfold Addr.add
        split
        · rename_i h; rw [h]; rfl
        · rfl
      rw [e]; exact this) h0 (by omega) (by rw [hb]; omega)
  refine ⟨_, _, hr, grownCap_ge _ _ _ _, grownCap_le_maxLen _ _ _ _ (by unfold maxLen; omega), Nat.le_refl _, ⟨_, heap_alloc_new w.drew _, fun j x hx => ?_⟩, bl_alloc (bl_drew (Below.refl _ _)) _⟩
  have h1 := qbts_at hx
  have hl : j < (qbts l).length := (List.getElem?_eq_some_iff.1 h1).1
  rw [Array.getElem?_append_left (by simpa using hl)]
  simpa using h1

set_option maxHeartbeats 800000 in
theorem qcopied_any (A : Option Addr) (c : Nat) (l : List Nat) (w : World) (hs : QSrcB w A (qbts l)) (h0 : 0 < l.length) (hn : l.length ≤ 1000000) :
    Calls Try.prog 200 #[.slice A l.length c] w (CopyDone l w) := by
  obtain ⟨cap, w1, hr, hc1, hc2, hf⟩ := copy_fresh (c := c) hs h0 hn
  have HF : Hid (CopyDone l w (.returned (.slice (some ⟨w.heap.size, 0, none⟩) l.length l.length)) w1) := Lib.hid ⟨_, rfl, hf⟩
  have HR := Lib.hid hr
  unfold maxLen at hc2
  clear hr hf hs
  go_enter Try.func200, Try.ntmps200
  go_wp2_with (at_builtin; refine wpList_append_is rfl (.const (.slice none 0 0)) (.tmp 4) 37 rfl _ _ rfl rfl HR.out ?_)
  go_ret
  exact HF.out

set_option maxHeartbeats 400000 in
theorem qnew_any (B : Nat) (room : Int) (w : World) (hB : B ≤ w.heap.size) (h1 : 1 ≤ room) (h2 : room ≤ 20000) :
    Calls Try.prog 126 #[.int .i64 room] w fun e w' => e = .returned (.tuple #[.pointer (some ⟨w.heap.size, 0, none⟩), .int .i64 0]) ∧ QRep B w' w.heap.size room 0 [] ∧ Below w.heap.size w w' := by
  go_enter Try.func126, Try.ntmps126
  go_wp2
  go_ret2
  exact ⟨rfl, ⟨hB, by simp; omega, _, Row.made _ _ _, OwnX.nil, fun t h => by cases h⟩, bl_alloc (Below.refl _ _) _⟩
set_option maxHeartbeats 400000 in
theorem qnew_arg (room : Int) (w : World) (h : room < 1 ∨ 20000 < room) :
    Calls Try.prog 126 #[.int .i64 room] w fun e w' => e = .returned (.tuple #[.pointer none, .int .i64 1]) ∧ w = w' := by
  rcases h with h | h
  · go_enter Try.func126, Try.ntmps126
    go_wp2
    go_ret2
    exact ⟨rfl, rfl⟩
  · have h' : ¬ room < 1 := by omega
    go_enter Try.func126, Try.ntmps126
    go_wp2
    go_ret2
    exact ⟨rfl, rfl⟩

/-- how many bytes wait -/
def bytesF (ts : List Txt) : Nat := ts.foldl (fun n t => n + t.bs.length) 0
theorem bytesF_acc (n : Nat) (ts : List Txt) : ts.foldl (fun n t => n + t.bs.length) n = n + bytesF ts := by
  unfold bytesF
  induction ts generalizing n with
  | nil => simp
  | cons t r ih => rw [List.foldl_cons, List.foldl_cons, ih, ih (0 + _)]; omega
theorem bytesF_cons (t : Txt) (r : List Txt) : bytesF (t :: r) = t.bs.length + bytesF r := by
  have := bytesF_acc (0 + t.bs.length) r
  unfold bytesF at *
  rw [List.foldl_cons, this]
  omega
theorem bytesF_append (a b : List Txt) : bytesF (a ++ b) = bytesF a + bytesF b := by
  unfold bytesF
  rw [List.foldl_append]
  exact bytesF_acc _ b
theorem bytesF_snoc (ts : List Txt) (t : Txt) : bytesF (ts ++ [t]) = bytesF ts + t.bs.length := by rw [bytesF_append]; simp [bytesF]
theorem bytesF_take (ts : List Txt) (k : Nat) : bytesF (ts.take k) ≤ bytesF ts := by
  have h := bytesF_append (ts.take k) (ts.drop k)
  rw [List.take_append_drop] at h
  omega
theorem q_take_snoc {α : Type} {L : List α} {k : Nat} {y : α} (h : L[k]? = some y) : L.take (k + 1) = L.take k ++ [y] := by
  rw [List.take_add_one, h]
  rfl

set_option maxRecDepth 100000 in
set_option maxHeartbeats 1600000 in
theorem qbytes_any {B p last : Nat} {room : Int} {ts : List Txt} {w : World} (h : QRep B w p room last ts) (hr : 0 < room) (hb : bytesF ts ≤ 1000000000) :
    Calls Try.prog 129 #[.pointer (some ⟨p, 0, none⟩)] w fun e w' => e = .returned (.int .i64 (bytesF ts : Nat)) ∧ Below w.heap.size w w' := by
  obtain ⟨hB, hB2, sv, hrow, hown, hl⟩ := h
  have c2 : w.cell? ⟨p, 2, none⟩ = some sv := hrow.read rfl
  have HROW := Lib.hid hrow
  have HOWN := Lib.hid hown
  have HL := Lib.hid hl
  have HT := Lib.hid (bytesF_take ts)
  obtain ⟨A, cap, rfl, hcap, hmx⟩ := hown.shape
  unfold maxLen at hmx
  clear hrow hown hl
  go_enter Try.func129, Try.ntmps129
  go_wp2_with (go_at_call 199; refine (none_not HROW.out hr).mono ?_; rintro e _ ⟨rfl, rfl⟩)
  go_loopw [3, 13] (fun n i wr => ∃ k : Nat, k ≤ ts.length ∧ i = .int .i64 k ∧ n = .int .i64 (bytesF (ts.take k) : Nat) ∧ Below w.heap.size w wr) (fun _ i _ => ts.length - (intOf i).toNat)
  case atStart => exact ⟨0, by omega, rfl, rfl, Below.refl _ _⟩
  case round =>
    obtain ⟨k, hk, rfl, rfl, hbr⟩ := hrel
    have HBR := Lib.hid hbr
    clear hbr
    by_cases hlt : k < ts.length
    · obtain ⟨t, ht⟩ : ∃ t, ts[k]? = some t := ⟨_, List.getElem?_eq_getElem hlt⟩
      obtain ⟨g, cap', hv, hc1, hc2⟩ := HOWN.out.form (by omega)
      injection hv with hA _ hcc
      subst hA
      subst hcc
      have hcell := HOWN.out.cells (g := g) rfl
      obtain ⟨a0, a1, a2⟩ := txc_at ht
      have d0 := kept_box HBR.out (hcell _ _ a0)
      have d1 := kept_box HBR.out (hcell _ _ a1)
      have d2 := kept_box HBR.out (hcell _ _ a2)
      have hsum : bytesF (ts.take (k + 1)) = bytesF (ts.take k) + t.bs.length := by rw [q_take_snoc ht, bytesF_snoc]
      have hle := HT.out (k + 1)
      have HS := Lib.hid hsum
      rw [hsum] at hle
      obtain ⟨l1, l2, l3, _⟩ := HL.out t (List.mem_of_getElem? ht)
      clear hcell a0 a1 a2 hsum ht hc1 hc2
      unfold Txt.waits at d1
      have hi0 : (0 : Int) ≤ (k : Int) := by omega
      have hi1 : (k : Int) < (ts.length : Int) := by omega
      go_wp2
      go_roundw
      case rel => exact ⟨k + 1, by omega, by go_num, by rw [HS.out]; go_num, bl_alloc HBR.out _⟩
      case measure => simp [intOf]; omega
    · obtain rfl : k = ts.length := by omega
      have HE := Lib.hid (show bytesF (ts.take ts.length) = bytesF ts by rw [List.take_length])
      go_wp2
      go_ret
      exact ⟨ret_int (by rw [HE.out]), HBR.out⟩
end Go.Proofs.Ytolinlnnbdjimaa
namespace Go.Proofs.Ytolinlnnbdjimaa
open Go.RowKit

theorem step_run {P : Program} {ops : Array Oper} {o : Oper} {a : Act} {w : World} {K : Act → World → Prop} {Q : Exit → Act → World → Prop} {E : Prop} (hgd : o.guard = none) (s x : Operand) (t : TypeId)
    (ho : o.op = .call { callee := .builtin .append, args := #[s, x], argTypes := #[t, t] }) (v u : Value) (hs : a.eval s = v) (hx : a.eval x = u) {v' : Value} {w' : World}
    (hr : (Builtin.append_ #[t, t] o.type #[v, u]).run P w = .ok v' w') (h : K (a.put o.dst v') w') :
    if Region.wanted o (yielded ops a.tmps) = true then Oper.wp P o a w K Q else E := by
  have hw : Region.wanted o (yielded ops a.tmps) = true := by simp [Region.wanted, hgd]
  rw [if_pos hw]
  unfold Oper.wp execOp
  simp only [ho, resolve, invoke, builtin, Sem.run_bind, Sem.run_pure, Result.andThen_ok, List.map_toArray, List.map_cons, List.map_nil, hs, hx, hr]
  exact h
end Go.Proofs.Ytolinlnnbdjimaa
namespace Go.Proofs.Ytolinlnnbdjimaa
open Go.RowKit

/-- only rows of the types X, and new memory, have changed -/
structure KR (X : TypeId → Prop) (B : Nat) (w v : World) : Prop where
  base : B ≤ w.heap.size
  below : Below B w v
  size : w.heap.size ≤ v.heap.size
  rows : ∀ g t cs, Row w g t cs → ¬ X t → Row v g t cs
section
variable {w v u : World} {X Y : TypeId → Prop} {B : Nat}
theorem KR.refl (X : TypeId → Prop) (hB : B ≤ w.heap.size) : KR X B w w := ⟨hB, Below.refl _ _, Nat.le_refl _, fun _ _ _ h _ => h⟩
theorem KR.trans (h : KR X B w v) (h2 : KR X B v u) : KR X B w u := ⟨h.base, h.below.trans h2.below, Nat.le_trans h.size h2.size, fun g t cs hr hx => h2.rows g t cs (h.rows g t cs hr hx) hx⟩
theorem KR.weaker (h : KR X B w v) (hx : ∀ t, X t → Y t) : KR Y B w v := ⟨h.base, h.below, h.size, fun g t cs hr hy => h.rows g t cs hr fun hh => hy (hx t hh)⟩
theorem KR.of_below (hB : B ≤ w.heap.size) (h : Below w.heap.size w v) : KR X B w v := ⟨hB, h.mono hB, h.size, fun _ _ _ hr _ => hr.later h⟩
theorem KR.alloc (h : KR X B w v) (o : Obj) : KR X B w (v.alloc o) :=
  ⟨h.base, h.below.alloc (Nat.le_trans h.base h.size) o, Nat.le_trans h.size (bl_alloc (Below.refl _ _) o).size, fun g t cs hr hx => (h.rows g t cs hr hx).more o⟩
theorem KR.own {m E n : Nat} {x : Value} {xs : List Value} (h : KR X B w v) (ho : w.ownsRow m E 1 x n xs) (hE : ¬ X E) : v.ownsRow m E 1 x n xs := by
  refine ⟨ho.1, ?_⟩
  rcases ho.2 with h0 | ⟨g, cap, cur, rfl, hb, hh, h1⟩
  · exact .inl h0
  · exact .inr ⟨g, cap, cur, rfl, hb, h.rows g E cur hh hE, h1⟩
theorem KR.set {g i : Nat} {t : TypeId} {cs : Array Value} (hr : Row w g t cs) (hx : X t) (hg : B ≤ g) (hB : B ≤ w.heap.size) (x : Value) : KR X B w (w.setCell ⟨g, i, none⟩ x) := by
  have ho : Only (fun k => k = g) w (w.setCell ⟨g, i, none⟩ x) := (Only.refl (fun k => k = g) w).set (p := ⟨g, i, none⟩) (.inl rfl) x
  refine ⟨hB, ho.below hB (fun k hk e => by omega), ho.size, fun g' t' cs' hr' hn => hr'.only ho (fun e => ?_)⟩
  subst e
  unfold Row at hr hr'
  rw [hr] at hr'
  have e := Option.some.inj hr'
  cases e
  exact hn hx
theorem row_made_at {t : TypeId} {cs : Array Value} {g : Nat} (hg : w.heap.size = g) : Row (w.alloc (.cells cs t)) g t cs := by subst hg; exact Row.made _ _ _
theorem step_own {ops : Array Oper} {o : Oper} {a : Act} {K : Act → World → Prop} {Q : Exit → Act → World → Prop} {F : Prop} {n T E by' g : Nat} {z x u : Value} {xs : List Value} (hgd : o.guard = none) (s y : Operand)
    (ho : o.op = .call { callee := .builtin .append, args := #[s, y], argTypes := #[T, T] }) (hty : o.type = T) (hT : Try.prog.underlying T = some (.slice E)) (hI : (Try.prog.info? E).map (fun i => (i.zero, i.size, i.bytes)) = some (some z, 1, by')) (hz : z.cells.size = 1) (hby : by' ≤ 24) (hu : u.oneCell' = true)
    (hs : a.eval s = x) (hy : a.eval y = .slice (some ⟨g, 0, none⟩) 1 1) (hown : w.ownsRow B E 1 x n xs) (hrow : Row w g E #[u]) (hB : B ≤ w.heap.size) (hn : n ≤ 100000)
    (hK : ∀ A' c' w', w'.ownsRow B E 1 (.slice A' (n + 1) c') (n + 1) (xs ++ [u]) → KR (fun t => t = E) B w w' → K (a.put o.dst (.slice A' (n + 1) c')) w') :
    if Region.wanted o (yielded ops a.tmps) = true then Oper.wp Try.prog o a w K Q else F := by
  obtain ⟨i0, hi, hi0, hi1, hi2⟩ := info_parts hI
  obtain ⟨v', w2, hrun, hown2, hgr, _, hat⟩ := run_append_own_at (P := Try.prog) (w := w) B T T E i0 z 1 by' hT hi hi0 hi1 hi2 hz (by omega) x n xs hown ⟨g, 0, none⟩ 1 1 [u] rfl
    (fun j u' hu' => by
      match j, hu' with
      | 0, hu' =>
        simp only [List.getElem?_cons_zero, Option.some.injEq] at hu'
        subst hu'
        rw [add_zero_o]
        exact hrow.read rfl
      | j + 1, hu' => simp at hu') (by intro y hy; simp at hy; subst hy; exact hu) (by unfold maxLen; omega) (by have := Nat.mul_le_mul (show n + 1 ≤ 100001 by omega) hby; omega) hB
  have hon : Only (fun k => x.ownBlock = some k) w w2 := (Only.refl _ _).grown hgr (fun k hk => .inl hk)
  obtain ⟨A', c', rfl⟩ : ∃ A' c', v' = .slice A' (n + 1) c' := by
    rcases hown2.2 with ⟨_, e⟩ | ⟨g, cap, cur, e, _⟩
    · omega
    · exact ⟨some ⟨g, 0, none⟩, cap, e⟩
  refine step_run hgd s y T ho x (.slice (some ⟨g, 0, none⟩) 1 1) hs hy (by rw [hty]; exact hrun) (hK A' c' w2 hown2 ⟨hB, hon.below hB (fun k hk hk2 => by have := (own_block hown k hk2).1; omega), hon.size, fun g' t cs hr hne => hr.only hon (fun hk => ?_)⟩)
  exact own_apart hown hr (fun e => hne e.symm) hk
theorem step_copy {ops : Array Oper} {o : Oper} {a : Act} {K : Act → World → Prop} {Q : Exit → Act → World → Prop} {F : Prop} {A : Option Addr} {c n : Nat} {l : List Nat} (hgd : o.guard = none) (s y : Operand)
    (ho : o.op = .call { callee := .builtin .append, args := #[s, y], argTypes := #[37, 37] }) (hty : o.type = 37) (hs : a.eval s = .slice none 0 0) (hy : a.eval y = .slice A n c) (hl : l.length = n) (h0 : 0 < n) (hn : n ≤ 1000000) (hsrc : QSrcB w A (qbts l))
    (hK : ∀ g cap w', n ≤ cap → cap ≤ 9223372036854775807 → w.heap.size ≤ g → (∃ cs : Array Value, Row w' g 5 cs ∧ ∀ (j b : Nat), l[j]? = some b → cs[j]? = some (Value.int .u8 (b : Nat))) → Below w.heap.size w w' → K (a.put o.dst (.slice (some ⟨g, 0, none⟩) n cap)) w') :
    if Region.wanted o (yielded ops a.tmps) = true then Oper.wp Try.prog o a w K Q else F := by
  subst hl
  obtain ⟨cap, w1, hr, hc1, hc2, hf⟩ := copy_fresh (c := c) hsrc h0 hn
  exact step_run hgd s y 37 ho _ _ hs hy (by rw [hty]; exact hr) (hK _ cap w1 hc1 (by unfold maxLen at hc2; omega) hf.1 hf.2.1 hf.2.2)
end
end Go.Proofs.Ytolinlnnbdjimaa
namespace Go.Proofs.Ytolinlnnbdjimaa
open Go.RowKit

theorem st_scope_through {P : Program} {a : Act} {w : World} {Q : Exit → Act → World → Prop} {c tail : Code} (l : Nat) (J : Act → World → Prop) (μ : Act → World → Nat) (hf : findLabel c l = some (.seq .skip tail))
    (first : (∀ a w, J a w → tail.wp P (Exit.jump l J Q) a w) → c.wp P (Exit.jump l J Q) a w)
    (pass : ∀ a w, J a w → tail.wp P (Exit.jump l (fun a' w' => J a' w' ∧ μ a' w' < μ a w) Q) a w) : (Code.scope c).wp P Q a w := by
  refine wp_scope_jumps l J μ hf (first fun a w h b k cs => ?_) (fun a w h => wp_seq (wp_skip (pass a w h)))
  obtain ⟨e, a', w', hq, harr⟩ := pass a w h b k cs
  refine ⟨e, a', w', ?_, harr⟩
  cases e <;> simp only [Exit.jump] at hq ⊢
  all_goals first | exact hq | exact ⟨hq.1, hq.2.1⟩
theorem srest_yes {p g : Nat} {bs : List Nat} {i : Nat} (w : World) (hr : RRep w p g bs i) (h : restOk bs i = true) :
    Calls Try.prog 151 #[.pointer (some ⟨p, 0, none⟩)] w fun e w' => ∃ g', e = .returned (.tuple #[.slice (some ⟨g', 0, none⟩) 0 0, .int .i64 0]) ∧ Only (fun k => k = p) w w' := by
  obtain ⟨h1, h2⟩ := restOk_iff.1 h
  refine (rest_ok w hr h2).mono ?_
  rintro e w' ⟨g', rfl, _, _, _, ho⟩
  exact ⟨g', by rw [h1, Nat.sub_self], ho⟩
def RestNo (w : World) (p : Nat) (e : Ending) (w' : World) : Prop := ∃ (A : Option Addr) (n : Nat) (er : Int), e = .returned (.tuple #[.slice A n n, .int .i64 er]) ∧ Only (fun k => k = p) w w' ∧ ((er = 0 ∧ 0 < n) ∨ er = 3)
theorem srest_no {p g : Nat} {bs : List Nat} {i : Nat} (w : World) (hr : RRep w p g bs i) (h : restOk bs i = false) :
    Calls Try.prog 151 #[.pointer (some ⟨p, 0, none⟩)] w (RestNo w p) := by
  have hi := hr.2.2.1
  rcases first_one (bitAt bs) (8 * up i - i) i with h1 | ⟨j, h1, h2, h3, h4⟩
  · have h' : ∀ k, i ≤ k → k < 8 * up i → bitAt bs k = false := fun k hk1 hk2 => h1 k hk1 (by omega)
    have hne : bs.length ≠ up i := fun e => by
      have := restOk_iff.2 ⟨e, h'⟩
      rw [h] at this
      cases this
    have hup : up i ≤ bs.length := by unfold up; omega
    refine (rest_ok w hr h').mono ?_
    rintro e w' ⟨g', rfl, _, _, _, ho⟩
    exact ⟨_, _, _, rfl, ho, .inl ⟨rfl, by omega⟩⟩
  · refine (rest_form w hr j h1 (by omega) h3 h4).mono ?_
    rintro e w' ⟨rfl, rfl⟩
    exact ⟨_, _, _, rfl, Only.refl _ _, .inr rfl⟩
theorem OwnM.keepR {B B' : Nat} {w w' : World} {v : Value} {L : List MissM} (h : OwnM B w v L) (k : KeepR B' w w') : OwnM B w' v L := by
  refine ⟨h.1, ?_⟩
  rcases h.2 with h0 | ⟨g, cap, cur, rfl, hb, hh, h1⟩
  · exact .inl h0
  · exact .inr ⟨g, cap, cur, rfl, hb, k.row hh (by decide), h1⟩
theorem OwnM.later {B : Nat} {w w' : World} {v : Value} {L : List MissM} (h : OwnM B w v L) (k : Below w.heap.size w w') : OwnM B w' v L := own_only h (.of_below k) (fun _ _ h => h)
/-- what stands at the jump -/
structure StL (w : World) (bs : List Nat) (p gb q : Nat) (ack : Int) (acc : List MissM) (mv : Value) (i : Nat) (w' : World) : Prop where
  rd : RRep w' p gb bs i
  res : Row w' w.heap.size 24 #[.int .i64 0, .slice none 0 0]
  box : Row w' q 24 #[.int .i64 ack, mv]
  own : OwnM (w.heap.size + 1) w' mv acc
  below : Below w.heap.size w w'
  above : w.heap.size + 1 ≤ p ∧ w.heap.size < q
section
variable {w w1 w2 : World} {bs : List Nat} {p gb q i j : Nat} {ack : Int} {acc : List MissM} {mv : Value}
theorem StL.keep (h : StL w bs p gb q ack acc mv i w1) (hr : RRep w2 p gb bs j) (k : KeepR (w.heap.size + 1) w1 w2) : StL w bs p gb q ack acc mv j w2 :=
  ⟨hr, k.row h.res (by decide), k.row h.box (by decide), h.own.keepR k, h.below.trans (k.1.mono (Nat.le_succ _)), h.above⟩
theorem StL.more (h : StL w bs p gb q ack acc mv i w1) (hb : Below w1.heap.size w1 w2) : StL w bs p gb q ack acc mv i w2 :=
  ⟨h.rd.later hb, h.res.later hb, h.box.later hb, h.own.later hb, bl_step h.below hb, h.above⟩
theorem StL.size (h : StL w bs p gb q ack acc mv i w1) : w.heap.size + 1 ≤ w1.heap.size := h.res.inside
/-- one miss more -/
theorem StL.next (h : StL w bs p gb q ack acc mv i w1) (m : MissM) (hl : acc.length ≤ 1000) :
    ∃ g c w3, (Builtin.append_ #[22, 22] 22 #[mv, .slice (some ⟨w1.heap.size, 0, none⟩) 1 1]).run Try.prog (w1.alloc (.cells #[.int .i64 m.sn, .bool m.part, .int .i64 m.fr, .int .i64 m.to] 26)) = .ok (.slice (some ⟨g, 0, none⟩) (acc.length + 1) c) w3 ∧
      w3.cell? ⟨q, 1, none⟩ = some mv ∧ w3.frozen? ⟨q, 1, none⟩ = false ∧
      StL w bs p gb q ack (acc ++ [m]) (.slice (some ⟨g, 0, none⟩) (acc.length + 1) c) i (w3.setCell ⟨q, 1, none⟩ (.slice (some ⟨g, 0, none⟩) (acc.length + 1) c)) := by
  obtain ⟨g, c, w3, h1, h2, h3⟩ := h.own.next h.size m hl
  have hne : ∀ k t cs, Row w1 k t cs → t ≠ 26 → ¬ mv.ownBlock = some k := fun k t cs hk ht => own_apart h.own hk (Ne.symm ht)
  have hb : Row w3 q 24 #[.int .i64 ack, mv] := h.box.only h3 (hne _ _ _ h.box (by decide))
  have hs : Row w3 w.heap.size 24 #[.int .i64 0, .slice none 0 0] := h.res.only h3 (hne _ _ _ h.res (by decide))
  have hr : RRep w3 p gb bs i := h.rd.only h3 (hne _ _ _ h.rd.1 (by decide)) (hne _ _ _ h.rd.2.1 (by decide))
  have hqr : p ≠ q := hr.1.apart hb (by decide)
  have hqg : gb ≠ q := hr.2.1.apart hb (by decide)
  refine ⟨g, c, w3, h1, hb.read rfl, hb.free _, ?_, ?_, ?_, ?_, ?_, h.above⟩
  · exact ⟨hr.1.elsewhere (p := ⟨q, 1, none⟩) hqr _, hr.2.1.elsewhere (p := ⟨q, 1, none⟩) hqg _, hr.2.2⟩
  · exact hs.elsewhere (p := ⟨q, 1, none⟩) (Nat.ne_of_lt h.above.2) _
  · exact hb.written 1 _
  · exact own_only h2 ((Only.refl (fun k => k = q) w3).set (p := ⟨q, 1, none⟩) (.inl rfl) _) (fun k hk hS => own_apart h2 hb (by decide) (by rw [hk]; exact congrArg some hS))
  · exact (h.below.trans (h3.below (Nat.le_of_succ_le h.size) (fun k hk hS => by have := (h.own.lt k hS).1; omega))).setCell (p := ⟨q, 1, none⟩) (Nat.le_of_lt h.above.2) _
end
theorem sclip_any {B : Nat} {W : World} {v : Value} {L : List MissM} (hown : OwnM B W v L) :
    Calls Try.prog 152 #[v] W fun e w' => (∃ A, e = .returned (.slice A L.length L.length) ∧ MSrc W A L) ∧ W = w' := by
  obtain ⟨A, c, rfl, hc, hcm⟩ := hown.form
  have HS := Lib.hid (OwnM.src hown)
  generalize hn : L.length = n at *
  have HN := Lib.hid hn
  clear hown hn
  cases A with
  | none =>
    go_enter Try.func152, Try.ntmps152
    go_wp2
    go_ret
    exact ⟨⟨_, rfl, HS.out⟩, rfl⟩
  | some ad =>
    go_enter Try.func152, Try.ntmps152
    go_wp2
    go_ret
    exact ⟨⟨_, rfl, HS.out⟩, rfl⟩
theorem Try.infostat : (Try.prog.info? 24).map (·.size) = some 2 := by kernel_rfl
theorem Try.understat : (Try.prog.underlying 24).map (fun d => match d with | .struct _ => true | _ => false) = some true := by kernel_rfl
theorem understat_parts : ∃ fs, Try.prog.underlying 24 = some (.struct fs) := by
  obtain ⟨d, hd, h⟩ := Option.map_eq_some_iff.1 Try.understat
  cases d with
  | struct fs => exact ⟨fs, hd⟩
  | _ => simp at h
theorem st_results_two {fn : Func} {p u : Tmp} {ty : TypeId} (h : fn.results = #[.cell p ty, .tmp u]) (tmps : Array Value) (w : World) (g : Nat) (t : TypeId) (cs : Array Value) (fs : Array Field)
    (hp : tmps.getD p undef = .pointer (some ⟨g, 0, none⟩)) (hg : Row w g t cs)
    (hu : Try.prog.underlying ty = some (.struct fs)) (hi : (Try.prog.info? ty).map (·.size) = some cs.size) :
    (results fn tmps).run Try.prog w = .ok (.tuple #[.agg cs, tmps.getD u undef]) w := by
  rw [results_cell_tmp h, hp]
  simp only [asAddr, Sem.run_pure, Result.andThen_ok, run_loadVar_row w g t ty cs (0, 0) (.struct fs) hg hu rfl hi]
end Go.Proofs.Ytolinlnnbdjimaa
namespace Go.Proofs.Ytolinlnnbdjimaa
open Go.RowKit

def stLen : Value → Nat
  | .slice _ n _ => n
  | _ => 0
def ptrBlk : Value → Nat
  | .pointer (some a) => a.block
  | _ => 0
def StRAns (w : World) (bs : List Nat) (x : Nat) (e : Ending) (w' : World) : Prop :=
  Below w.heap.size w w' ∧ ((stRd bs x).1 = 0 → ∃ A c, e = .returned (.tuple #[.agg #[.int .i64 (stRd bs x).2.1, .slice A (stRd bs x).2.2.length c], .int .i64 0]) ∧ (stRd bs x).2.2.length ≤ c ∧ c ≤ 9223372036854775807 ∧ MSrc w' A (stRd bs x).2.2) ∧
    ((stRd bs x).1 ≠ 0 → e = .returned (.tuple #[.agg #[.int .i64 0, .slice none 0 0], .int .i64 (stRd bs x).1]))
theorem st_bad {w w' : World} {bs : List Nat} {x : Nat} {c : Int} {e : Ending} {L : List MissM} {a : Int} (h : stRd bs x = (c, a, L)) (h0 : c ≠ 0) (hb : Below w.heap.size w w') (he : e = .returned (.tuple #[.agg #[.int .i64 0, .slice none 0 0], .int .i64 c])) : StRAns w bs x e w' :=
  ⟨hb, fun h1 => by rw [h] at h1; exact absurd h1 h0, fun _ => by rw [h]; exact he⟩
theorem cells2 {w : World} {g : Nat} {t : TypeId} {a b : Value} (hr : Row w g t #[a, b]) : (w.cell? ⟨g, 0, none⟩ = some a ∧ w.cell? ⟨g, 1, none⟩ = some b) ∧ (w.frozen? ⟨g, 0, none⟩ = false ∧ w.frozen? ⟨g, 1, none⟩ = false) :=
  ⟨⟨hr.read rfl, hr.read rfl⟩, hr.free _, hr.free _⟩
theorem row_set2 {w : World} {g : Nat} {t : TypeId} {a b a' b' : Value} (h : Row w g t #[a, b]) : Row ((w.setCell ⟨g, 0, none⟩ a').setCell ⟨g, 1, none⟩ b') g t #[a', b'] := (h.written 0 a').written 1 b'
theorem below_set2 {w w1 : World} (h : Below w.heap.size w w1) (a b : Value) : Below w.heap.size w ((w1.setCell ⟨w.heap.size, 0, none⟩ a).setCell ⟨w.heap.size, 1, none⟩ b) := (h.setCell (p := ⟨w.heap.size, 0, none⟩) (Nat.le_refl _) a).setCell (p := ⟨w.heap.size, 1, none⟩) (Nat.le_refl _) b
/-- the loop goes on with this -/
def LoopEq (bs : List Nat) (x : Nat) (acc : List MissM) (i : Nat) (more : Bool) : Prop := acc.length ≤ 32 ∧ (acc.length = 32 → more = false) ∧ rdAll bs x (32 - acc.length) acc i more = rdAll bs x 32 [] (0 + 4 + x + 1) (bitAt bs (0 + 4 + x))
section
variable {bs : List Nat} {x i j : Nat} {acc : List MissM} {m : MissM} {more : Bool}
theorem LoopEq.start (bs : List Nat) (x : Nat) : LoopEq bs x [] (0 + 4 + x + 1) (bitAt bs (0 + 4 + x)) := ⟨by simp, by simp, rfl⟩
theorem LoopEq.none (h : LoopEq bs x acc i true) (e : rdMiss bs x i = none) : rdAll bs x 32 [] (0 + 4 + x + 1) (bitAt bs (0 + 4 + x)) = (8, [], 0) := by
  obtain ⟨h1, h2, h3⟩ := h
  have h4 : acc.length ≠ 32 := fun h => by have := h2 h; cases this
  rw [show 32 - acc.length = (31 - acc.length) + 1 by omega, rdAll, e] at h3
  exact h3.symm
theorem LoopEq.long (h : LoopEq bs x acc i true) (e : rdMiss bs x i = some (m, true, j)) (hl : acc.length = 31) : rdAll bs x 32 [] (0 + 4 + x + 1) (bitAt bs (0 + 4 + x)) = (2, [], 0) := by
  obtain ⟨h1, h2, h3⟩ := h
  rw [show 32 - acc.length = 0 + 1 by omega, rdAll, e] at h3
  simpa using h3.symm
theorem LoopEq.form (h : LoopEq bs x acc i true) (e : rdMiss bs x i = some (m, more, j)) (hl : more = true → acc.length ≠ 31) (hp : placedB m x = false) : rdAll bs x 32 [] (0 + 4 + x + 1) (bitAt bs (0 + 4 + x)) = (3, [], 0) := by
  obtain ⟨h1, h2, h3⟩ := h
  have h4 : acc.length ≠ 32 := fun h => by have := h2 h; cases this
  have h5 : (more && (31 - acc.length == 0)) = false := by
    cases more
    · rfl
    · have := hl rfl
      simp
      omega
  rw [show 32 - acc.length = (31 - acc.length) + 1 by omega, rdAll, e] at h3
  simp only [h5, hp, Bool.false_eq_true, if_false] at h3
  exact h3.symm
theorem LoopEq.next (h : LoopEq bs x acc i true) (e : rdMiss bs x i = some (m, more, j)) (hl : more = true → acc.length ≠ 31) (hp : placedB m x = true) : LoopEq bs x (acc ++ [m]) j more := by
  obtain ⟨h1, h2, h3⟩ := h
  have h4 : acc.length ≠ 32 := fun h => by have := h2 h; cases this
  have h5 : (more && (31 - acc.length == 0)) = false := by
    cases more
    · rfl
    · have := hl rfl
      simp
      omega
  rw [show 32 - acc.length = (31 - acc.length) + 1 by omega, rdAll, e] at h3
  simp only [h5, hp, Bool.false_eq_true, if_false, if_true] at h3
  refine ⟨by simp; omega, fun h6 => ?_, ?_⟩
  · simp at h6
    cases more
    · rfl
    · exact absurd (by omega) (hl rfl)
  · rw [← h3, List.length_append, List.length_singleton, show 32 - (acc.length + 1) = 31 - acc.length by omega]
theorem LoopEq.done (h : LoopEq bs x acc i false) : rdAll bs x 32 [] (0 + 4 + x + 1) (bitAt bs (0 + 4 + x)) = (0, acc, i) := by
  rw [← h.2.2]
  cases (32 - acc.length) <;> rfl
end
/-- a code of an error, not of its loop -/
theorem stRd_fault {bs : List Nat} {x : Nat} (h : faultS bs x ≠ 0) : stRd bs x = (faultS bs x, 0, []) := by
  unfold faultS at h ⊢
  unfold stRd
  split
  · rfl
  · rename_i h1
    rw [if_neg h1] at h
    split
    · rfl
    · rename_i h2
      rw [if_neg h2] at h
      split
      · rfl
      · rename_i h3
        rw [if_neg h3] at h
        split
        · rfl
        · rename_i h4
          rw [if_neg h4] at h
          exact absurd rfl h
theorem stRd_short {bs : List Nat} {x : Nat} (h : faultS bs x = 0) (hs : 8 * bs.length < 0 + 4 + x + 1) : stRd bs x = (8, 0, []) := by
  unfold faultS at h
  unfold stRd
  repeat' split at h
  all_goals first | exact absurd h (by decide) | skip
  rename_i h1 h2 h3 h4
  rw [if_neg h1, if_neg h2, if_neg h3, if_neg h4, if_pos hs]
theorem stRd_all {bs : List Nat} {x : Nat} (h : faultS bs x = 0) (hs : ¬ 8 * bs.length < 0 + 4 + x + 1) {c : Int} {L : List MissM} {j : Nat} (e : rdAll bs x 32 [] (0 + 4 + x + 1) (bitAt bs (0 + 4 + x)) = (c, L, j)) :
    stRd bs x = if c = 0 then (if restOk bs j = true then (0, ((val (seg bs (0 + 4) x) : Nat) : Int), L) else (3, 0, [])) else (c, 0, []) := by
  unfold faultS at h
  unfold stRd
  repeat' split at h
  all_goals first | exact absurd h (by decide) | skip
  rename_i h1 h2 h3 h4
  rw [if_neg h1, if_neg h2, if_neg h3, if_neg h4, if_neg hs, e]
theorem st_src_later {w v : World} {A : Option Addr} {xs : List Value} (h : Src w A xs) (hb : Below w.heap.size w v) : Src v A xs := by
  intro h0
  obtain ⟨ad, e, hc⟩ := h h0
  exact ⟨ad, e, fun j u hu => cell_below hb (hc j u hu)⟩
set_option maxRecDepth 100000 in
set_option maxHeartbeats 3200000 in
theorem sread_fault {A : Option Addr} {bs : List Nat} (x n cap : Nat) (w : World) (hn : bs.length = n) (hs : Src w A (bts bs)) (hb : ∀ b ∈ bs, b < 256) (hf : faultS bs x ≠ 0) :
    Calls Try.prog 70 #[.slice A n cap, .int .i64 x] w (StRAns w bs x) := by
  have HE := Lib.hid (stRd_fault hf)
  have HNE := Lib.hid hf
  have HF := Lib.hid (sfault_any x n cap (w.alloc (.cells #[.int .i64 0, .slice none 0 0] 24)) hn (st_src_later hs (bl_alloc (Below.refl _ _) _)) hb)
  have hb0 : (faultS bs x != 0) = true := by simpa using hf
  have ROW := Lib.hid (Row.made w 24 #[.int .i64 0, .slice none 0 0])
  obtain ⟨⟨c0, c1⟩, f0, f1⟩ := cells2 ROW.out
  clear hf hs hb hn
  generalize faultS bs x = f at *
  go_enter Try.func70, Try.ntmps70
  go_wp2
  refine st_scope_through 0 (fun _ _ => False) (fun _ _ => 0) rfl (fun _ => ?_) (fun _ _ h => h.elim)
  go_wp2_with (go_at_call 148; (with_reducible refine HF.out.mono ?_); rintro e w1 ⟨rfl, rfl⟩)
  simp only [Exit.jump]
  obtain ⟨dd, hdd⟩ := understat_parts
  refine bodyPost_ret (st_results_two rfl _ _ w.heap.size 24 #[.int .i64 0, .slice none 0 0] dd rfl ROW.out hdd Try.infostat) rfl ?_
  exact st_bad HE.out HNE.out (bl_alloc (Below.refl _ _) _) rfl
end Go.Proofs.Ytolinlnnbdjimaa
