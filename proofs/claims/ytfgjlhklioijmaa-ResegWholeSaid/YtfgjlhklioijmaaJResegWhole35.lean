/-
  The calls of package queue that only ask, and its small functions. The document's queue: a text pushed (the steps of its drawn region).
-/
import Derived.Test.YtfgjlhklioijmaaJResegWhole34
import Derived.Laws.MakeOwn
import Derived.Deep.RegionLaw
import Derived.Deep.AppendLies
import Derived.Outline
import Derived.Test.YtfgjlhklioijmaaJResegWhole29
namespace Go.Proofs.Ytfgjlhklioijmaa
open Go.RowKit

theorem wpList_append_is {P : Program} {w : World} {ops : Array Oper} {rest : List Oper} {o : Oper} {a : Act} {Q : Exit → Act → World → Prop} (hgd : o.guard = none) (s x : Operand) (t : TypeId)
    (ho : o.op = .call { callee := .builtin .append, args := #[s, x], argTypes := #[t, t] }) (v u : Value) (hs : a.eval s = v) (hx : a.eval x = u) {v' : Value} {w' : World}
    (hr : (Builtin.append_ #[t, t] o.type #[v, u]).run P w = .ok v' w') (h : wpList P ops Q rest (a.put o.dst v') w') : wpList P ops Q (o :: rest) a w :=
  wpList_plain hgd fun _ hK => by
    unfold Oper.wp execOp
    simp only [ho, resolve, invoke, builtin, Sem.run_bind, Sem.run_pure, Result.andThen_ok, List.map_toArray, List.map_cons, List.map_nil, hs, hx, hr]
    exact hK _ _ h

set_option maxHeartbeats 400000 in
theorem none_nil (w : World) : Calls Try.prog 175 #[.pointer none] w fun e w' => e = .returned (.bool true) ∧ w = w' := by
  go_enter Try.func175, Try.ntmps175
  go_wp2
  go_ret
  exact ⟨rfl, rfl⟩
set_option maxHeartbeats 400000 in
theorem none_zero {p : Nat} {w : World} {a b : Value} (h : Row w p 114 #[.int .i64 0, a, b]) : Calls Try.prog 175 #[.pointer (some ⟨p, 0, none⟩)] w fun e w' => e = .returned (.bool true) ∧ w = w' := by
  have c0 := h.read (i := 0) rfl
  clear h
  go_enter Try.func175, Try.ntmps175
  go_wp2
  go_ret
  exact ⟨rfl, rfl⟩
set_option maxHeartbeats 400000 in
theorem none_not {p : Nat} {room : Int} {w : World} {a b : Value} (h : Row w p 114 #[.int .i64 room, a, b]) (hr : 0 < room) : Calls Try.prog 175 #[.pointer (some ⟨p, 0, none⟩)] w fun e w' => e = .returned (.bool false) ∧ w = w' := by
  have c0 := h.read (i := 0) rfl
  have h0 : (room == 0) = false := by simp; omega
  clear h
  go_enter Try.func175, Try.ntmps175
  go_wp2
  go_ret
  exact ⟨rfl, rfl⟩

/-- new memory with these bytes -/
def Fresh (w : World) (l : List Nat) (g : Nat) (w' : World) : Prop := w.heap.size ≤ g ∧ (∃ cs : Array Value, Row w' g 5 cs ∧ ∀ (j b : Nat), l[j]? = some b → cs[j]? = some (Value.int .u8 (b : Nat))) ∧ Below w.heap.size w w'
def CopyDone (l : List Nat) (w : World) (e : Ending) (w' : World) : Prop := ∃ g, e = .returned (.slice (some ⟨g, 0, none⟩) l.length l.length) ∧ Fresh w l g w'

theorem copy_fresh {w : World} {A : Option Addr} {c : Nat} {l : List Nat} (hs : QSrcB w A (qbts l)) (h0 : 0 < l.length) (hn : l.length ≤ 1000000) :
    ∃ cap w', (Builtin.append_ #[30, 30] 30 #[.slice none 0 0, .slice A l.length c]).run Try.prog w = .ok (.slice (some ⟨w.heap.size, 0, none⟩) l.length cap) w' ∧ l.length ≤ cap ∧ cap ≤ maxLen ∧ Fresh w l w.heap.size w' := by
  obtain ⟨i, hi, hz, hsz, hb⟩ := qinfo5_parts
  obtain ⟨b, off, rfl, hc⟩ := hs (by rw [qlength_bts]; exact h0)
  have hr := run_append_nil (P := Try.prog) w 30 30 5 i _ Try.underlying30 hi hz ⟨b, off, none⟩ l.length c (qbts l) (by rw [hsz, Nat.mul_one, qlength_bts])
    (fun j u hu => by
      have := hc j u hu
      have e : (⟨b, off, none⟩ : Addr).add j = ⟨b, off + j, none⟩ := by
        unfold Addr.add
        split
        · rename_i h; rw [h]; rfl
        · rfl
      rw [e]; exact this) h0 (by omega) (by rw [hb]; omega)
  refine ⟨_, _, hr, grownCap_ge _ _ _ _, grownCap_le_maxLen _ _ _ _ (by unfold maxLen; omega), Nat.le_refl _, ⟨_, heap_alloc_new w.drew _, fun j x hx => ?_⟩, bl_alloc (bl_drew (Below.refl _ _)) _⟩
  have h1 := qbts_at hx
  have hl : j < (qbts l).length := (List.getElem?_eq_some_iff.1 h1).1
  rw [Array.getElem?_append_left (by simpa using hl)]
  simpa using h1

set_option maxHeartbeats 800000 in
theorem qcopied_any (A : Option Addr) (c : Nat) (l : List Nat) (w : World) (hs : QSrcB w A (qbts l)) (h0 : 0 < l.length) (hn : l.length ≤ 1000000) :
    Calls Try.prog 176 #[.slice A l.length c] w (CopyDone l w) := by
  obtain ⟨cap, w1, hr, hc1, hc2, hf⟩ := copy_fresh (c := c) hs h0 hn
  have HF : Hid (CopyDone l w (.returned (.slice (some ⟨w.heap.size, 0, none⟩) l.length l.length)) w1) := Lib.hid ⟨_, rfl, hf⟩
  have HR := Lib.hid hr
  unfold maxLen at hc2
  clear hr hf hs
  go_enter Try.func176, Try.ntmps176
  go_wp2_with (at_builtin; refine wpList_append_is rfl (.const (.slice none 0 0)) (.tmp 4) 30 rfl _ _ rfl rfl HR.out ?_)
  go_ret
  exact HF.out

set_option maxHeartbeats 400000 in
theorem qnew_any (B : Nat) (room : Int) (w : World) (hB : B ≤ w.heap.size) (h1 : 1 ≤ room) (h2 : room ≤ 20000) :
    Calls Try.prog 58 #[.int .i64 room] w fun e w' => e = .returned (.tuple #[.pointer (some ⟨w.heap.size, 0, none⟩), .int .i64 0]) ∧ QRep B w' w.heap.size room 0 [] ∧ Below w.heap.size w w' := by
  go_enter Try.func58, Try.ntmps58
  go_wp2
  go_ret2
  exact ⟨rfl, ⟨hB, by simp; omega, _, Row.made _ _ _, OwnX.nil, fun t h => by cases h⟩, bl_alloc (Below.refl _ _) _⟩
set_option maxHeartbeats 400000 in
theorem qnew_arg (room : Int) (w : World) (h : room < 1 ∨ 20000 < room) :
    Calls Try.prog 58 #[.int .i64 room] w fun e w' => e = .returned (.tuple #[.pointer none, .int .i64 1]) ∧ w = w' := by
  rcases h with h | h
  · go_enter Try.func58, Try.ntmps58
    go_wp2
    go_ret2
    exact ⟨rfl, rfl⟩
  · have h' : ¬ room < 1 := by omega
    go_enter Try.func58, Try.ntmps58
    go_wp2
    go_ret2
    exact ⟨rfl, rfl⟩

/-- how many bytes wait -/
def bytesF (ts : List Txt) : Nat := ts.foldl (fun n t => n + t.bs.length) 0
theorem bytesF_acc (n : Nat) (ts : List Txt) : ts.foldl (fun n t => n + t.bs.length) n = n + bytesF ts := by
  unfold bytesF
  induction ts generalizing n with
  | nil => simp
  | cons t r ih => rw [List.foldl_cons, List.foldl_cons, ih, ih (0 + _)]; omega
theorem bytesF_cons (t : Txt) (r : List Txt) : bytesF (t :: r) = t.bs.length + bytesF r := by
  have := bytesF_acc (0 + t.bs.length) r
  unfold bytesF at *
  rw [List.foldl_cons, this]
  omega
theorem bytesF_append (a b : List Txt) : bytesF (a ++ b) = bytesF a + bytesF b := by
  unfold bytesF
  rw [List.foldl_append]
  exact bytesF_acc _ b
theorem bytesF_snoc (ts : List Txt) (t : Txt) : bytesF (ts ++ [t]) = bytesF ts + t.bs.length := by rw [bytesF_append]; simp [bytesF]
theorem bytesF_take (ts : List Txt) (k : Nat) : bytesF (ts.take k) ≤ bytesF ts := by
  have h := bytesF_append (ts.take k) (ts.drop k)
  rw [List.take_append_drop] at h
  omega
theorem q_take_snoc {α : Type} {L : List α} {k : Nat} {y : α} (h : L[k]? = some y) : L.take (k + 1) = L.take k ++ [y] := by
  rw [List.take_add_one, h]
  rfl

set_option maxRecDepth 100000 in
set_option maxHeartbeats 1600000 in
theorem qbytes_any {B p last : Nat} {room : Int} {ts : List Txt} {w : World} (h : QRep B w p room last ts) (hr : 0 < room) (hb : bytesF ts ≤ 1000000000) :
    Calls Try.prog 71 #[.pointer (some ⟨p, 0, none⟩)] w fun e w' => e = .returned (.int .i64 (bytesF ts : Nat)) ∧ Below w.heap.size w w' := by
  obtain ⟨hB, hB2, sv, hrow, hown, hl⟩ := h
  have c2 : w.cell? ⟨p, 2, none⟩ = some sv := hrow.read rfl
  have HROW := Lib.hid hrow
  have HOWN := Lib.hid hown
  have HL := Lib.hid hl
  have HT := Lib.hid (bytesF_take ts)
  obtain ⟨A, cap, rfl, hcap, hmx⟩ := hown.shape
  unfold maxLen at hmx
  clear hrow hown hl
  go_enter Try.func71, Try.ntmps71
  go_wp2_with (go_at_call 175; refine (none_not HROW.out hr).mono ?_; rintro e _ ⟨rfl, rfl⟩)
  go_loopw [3, 13] (fun n i wr => ∃ k : Nat, k ≤ ts.length ∧ i = .int .i64 k ∧ n = .int .i64 (bytesF (ts.take k) : Nat) ∧ Below w.heap.size w wr) (fun _ i _ => ts.length - (intOf i).toNat)
  case atStart => exact ⟨0, by omega, rfl, rfl, Below.refl _ _⟩
  case round =>
    obtain ⟨k, hk, rfl, rfl, hbr⟩ := hrel
    have HBR := Lib.hid hbr
    clear hbr
    by_cases hlt : k < ts.length
    · obtain ⟨t, ht⟩ : ∃ t, ts[k]? = some t := ⟨_, List.getElem?_eq_getElem hlt⟩
      obtain ⟨g, cap', hv, hc1, hc2⟩ := HOWN.out.form (by omega)
      injection hv with hA _ hcc
      subst hA
      subst hcc
      have hcell := HOWN.out.cells (g := g) rfl
      obtain ⟨a0, a1, a2⟩ := txc_at ht
      have d0 := kept_box HBR.out (hcell _ _ a0)
      have d1 := kept_box HBR.out (hcell _ _ a1)
      have d2 := kept_box HBR.out (hcell _ _ a2)
      have hsum : bytesF (ts.take (k + 1)) = bytesF (ts.take k) + t.bs.length := by rw [q_take_snoc ht, bytesF_snoc]
      have hle := HT.out (k + 1)
      have HS := Lib.hid hsum
      rw [hsum] at hle
      obtain ⟨l1, l2, l3, _⟩ := HL.out t (List.mem_of_getElem? ht)
      clear hcell a0 a1 a2 hsum ht hc1 hc2
      unfold Txt.waits at d1
      have hi0 : (0 : Int) ≤ (k : Int) := by omega
      have hi1 : (k : Int) < (ts.length : Int) := by omega
      go_wp2
      go_roundw
      case rel => exact ⟨k + 1, by omega, by go_num, by rw [HS.out]; go_num, bl_alloc HBR.out _⟩
      case measure => simp [intOf]; omega
    · obtain rfl : k = ts.length := by omega
      have HE := Lib.hid (show bytesF (ts.take ts.length) = bytesF ts by rw [List.take_length])
      go_wp2
      go_ret
      exact ⟨ret_int (by rw [HE.out]), HBR.out⟩
end Go.Proofs.Ytfgjlhklioijmaa
namespace Go.Proofs.Ytfgjlhklioijmaa
open Go.RowKit

/-- only rows of the types X, and new memory, have changed -/
structure KR (X : TypeId → Prop) (B : Nat) (w v : World) : Prop where
  base : B ≤ w.heap.size
  below : Below B w v
  size : w.heap.size ≤ v.heap.size
  rows : ∀ g t cs, Row w g t cs → ¬ X t → Row v g t cs
section
variable {w v u : World} {X Y : TypeId → Prop} {B : Nat}
theorem KR.refl (X : TypeId → Prop) (hB : B ≤ w.heap.size) : KR X B w w := ⟨hB, Below.refl _ _, Nat.le_refl _, fun _ _ _ h _ => h⟩
theorem KR.trans (h : KR X B w v) (h2 : KR X B v u) : KR X B w u := ⟨h.base, h.below.trans h2.below, Nat.le_trans h.size h2.size, fun g t cs hr hx => h2.rows g t cs (h.rows g t cs hr hx) hx⟩
theorem KR.weaker (h : KR X B w v) (hx : ∀ t, X t → Y t) : KR Y B w v := ⟨h.base, h.below, h.size, fun g t cs hr hy => h.rows g t cs hr fun hh => hy (hx t hh)⟩
theorem KR.of_below (hB : B ≤ w.heap.size) (h : Below w.heap.size w v) : KR X B w v := ⟨hB, h.mono hB, h.size, fun _ _ _ hr _ => hr.later h⟩
theorem KR.alloc (h : KR X B w v) (o : Obj) : KR X B w (v.alloc o) :=
  ⟨h.base, h.below.alloc (Nat.le_trans h.base h.size) o, Nat.le_trans h.size (bl_alloc (Below.refl _ _) o).size, fun g t cs hr hx => (h.rows g t cs hr hx).more o⟩
theorem KR.own {m E n : Nat} {x : Value} {xs : List Value} (h : KR X B w v) (ho : w.ownsRow m E 1 x n xs) (hE : ¬ X E) : v.ownsRow m E 1 x n xs := by
  refine ⟨ho.1, ?_⟩
  rcases ho.2 with h0 | ⟨g, cap, cur, rfl, hb, hh, h1⟩
  · exact .inl h0
  · exact .inr ⟨g, cap, cur, rfl, hb, h.rows g E cur hh hE, h1⟩
theorem KR.set {g i : Nat} {t : TypeId} {cs : Array Value} (hr : Row w g t cs) (hx : X t) (hg : B ≤ g) (hB : B ≤ w.heap.size) (x : Value) : KR X B w (w.setCell ⟨g, i, none⟩ x) := by
  have ho : Only (fun k => k = g) w (w.setCell ⟨g, i, none⟩ x) := (Only.refl (fun k => k = g) w).set (p := ⟨g, i, none⟩) (.inl rfl) x
  refine ⟨hB, ho.below hB (fun k hk e => by omega), ho.size, fun g' t' cs' hr' hn => hr'.only ho (fun e => ?_)⟩
  subst e
  unfold Row at hr hr'
  rw [hr] at hr'
  have e := Option.some.inj hr'
  cases e
  exact hn hx
theorem row_made_at {t : TypeId} {cs : Array Value} {g : Nat} (hg : w.heap.size = g) : Row (w.alloc (.cells cs t)) g t cs := by subst hg; exact Row.made _ _ _
theorem step_own {ops : Array Oper} {o : Oper} {a : Act} {K : Act → World → Prop} {Q : Exit → Act → World → Prop} {F : Prop} {n T E by' g : Nat} {z x u : Value} {xs : List Value} (hgd : o.guard = none) (s y : Operand)
    (ho : o.op = .call { callee := .builtin .append, args := #[s, y], argTypes := #[T, T] }) (hty : o.type = T) (hT : Try.prog.underlying T = some (.slice E)) (hI : (Try.prog.info? E).map (fun i => (i.zero, i.size, i.bytes)) = some (some z, 1, by')) (hz : z.cells.size = 1) (hby : by' ≤ 24) (hu : u.oneCell' = true)
    (hs : a.eval s = x) (hy : a.eval y = .slice (some ⟨g, 0, none⟩) 1 1) (hown : w.ownsRow B E 1 x n xs) (hrow : Row w g E #[u]) (hB : B ≤ w.heap.size) (hn : n ≤ 100000)
    (hK : ∀ A' c' w', w'.ownsRow B E 1 (.slice A' (n + 1) c') (n + 1) (xs ++ [u]) → KR (fun t => t = E) B w w' → K (a.put o.dst (.slice A' (n + 1) c')) w') :
    if Region.wanted o (yielded ops a.tmps) = true then Oper.wp Try.prog o a w K Q else F := by
  obtain ⟨i0, hi, hi0, hi1, hi2⟩ := info_parts hI
  obtain ⟨v', w2, hrun, hown2, hgr, _, hat⟩ := run_append_own_at (P := Try.prog) (w := w) B T T E i0 z 1 by' hT hi hi0 hi1 hi2 hz (by omega) x n xs hown ⟨g, 0, none⟩ 1 1 [u] rfl
    (fun j u' hu' => by
      match j, hu' with
      | 0, hu' =>
        simp only [List.getElem?_cons_zero, Option.some.injEq] at hu'
        subst hu'
        rw [add_zero_o]
        exact hrow.read rfl
      | j + 1, hu' => simp at hu') (by intro y hy; simp at hy; subst hy; exact hu) (by unfold maxLen; omega) (by have := Nat.mul_le_mul (show n + 1 ≤ 100001 by omega) hby; omega) hB
  have hon : Only (fun k => x.ownBlock = some k) w w2 := (Only.refl _ _).grown hgr (fun k hk => .inl hk)
  obtain ⟨A', c', rfl⟩ : ∃ A' c', v' = .slice A' (n + 1) c' := by
    rcases hown2.2 with ⟨_, e⟩ | ⟨g, cap, cur, e, _⟩
    · omega
    · exact ⟨some ⟨g, 0, none⟩, cap, e⟩
  refine step_run hgd s y T ho x (.slice (some ⟨g, 0, none⟩) 1 1) hs hy (by rw [hty]; exact hrun) (hK A' c' w2 hown2 ⟨hB, hon.below hB (fun k hk hk2 => by have := (own_block hown k hk2).1; omega), hon.size, fun g' t cs hr hne => hr.only hon (fun hk => ?_)⟩)
  exact own_apart hown hr (fun e => hne e.symm) hk
theorem step_copy {ops : Array Oper} {o : Oper} {a : Act} {K : Act → World → Prop} {Q : Exit → Act → World → Prop} {F : Prop} {A : Option Addr} {c n : Nat} {l : List Nat} (hgd : o.guard = none) (s y : Operand)
    (ho : o.op = .call { callee := .builtin .append, args := #[s, y], argTypes := #[30, 30] }) (hty : o.type = 30) (hs : a.eval s = .slice none 0 0) (hy : a.eval y = .slice A n c) (hl : l.length = n) (h0 : 0 < n) (hn : n ≤ 1000000) (hsrc : QSrcB w A (qbts l))
    (hK : ∀ g cap w', n ≤ cap → cap ≤ 9223372036854775807 → w.heap.size ≤ g → (∃ cs : Array Value, Row w' g 5 cs ∧ ∀ (j b : Nat), l[j]? = some b → cs[j]? = some (Value.int .u8 (b : Nat))) → Below w.heap.size w w' → K (a.put o.dst (.slice (some ⟨g, 0, none⟩) n cap)) w') :
    if Region.wanted o (yielded ops a.tmps) = true then Oper.wp Try.prog o a w K Q else F := by
  subst hl
  obtain ⟨cap, w1, hr, hc1, hc2, hf⟩ := copy_fresh (c := c) hsrc h0 hn
  exact step_run hgd s y 30 ho _ _ hs hy (by rw [hty]; exact hr) (hK _ cap w1 hc1 (by unfold maxLen at hc2; omega) hf.1 hf.2.1 hf.2.2)
end
end Go.Proofs.Ytfgjlhklioijmaa
