/-
  The calls of package queue that only ask, and its small functions. An append whose run is known, at a drawn region. The document's queue: a text pushed (the steps of its drawn region). A region that draws its order, walked by hand. The numbers of a queue's texts; where one stands. A text that is let go; what a queue's calls may change.
-/
import Derived.Test.YtbcjfdhphpckfaaJCutBuilds02
import Derived.Laws.MakeOwn
import Derived.Deep.RegionLaw
import Derived.Deep.AppendLies
import Derived.Outline
import Derived.Test.YtbcjfdhphpckfaaJCutBuilds01
import Derived.Deep.RegionHeld3
import Derived.ScopeJumps
import Derived.IntWalk
import Derived.Laws.OwnMore
import Derived.Laws.CopyRow
import Derived.Laws.EntriesVeiled
import Derived.Deep.Onto
namespace Go.Proofs.Ytbcjfdhphpckfaa
open Go.RowKit

theorem wpList_append_is {P : Program} {w : World} {ops : Array Oper} {rest : List Oper} {o : Oper} {a : Act} {Q : Exit → Act → World → Prop} (hgd : o.guard = none) (s x : Operand) (t : TypeId)
    (ho : o.op = .call { callee := .builtin .append, args := #[s, x], argTypes := #[t, t] }) (v u : Value) (hs : a.eval s = v) (hx : a.eval x = u) {v' : Value} {w' : World}
    (hr : (Builtin.append_ #[t, t] o.type #[v, u]).run P w = .ok v' w') (h : wpList P ops Q rest (a.put o.dst v') w') : wpList P ops Q (o :: rest) a w :=
  wpList_plain hgd fun _ hK => by
    unfold Oper.wp execOp
    simp only [ho, resolve, invoke, builtin, Sem.run_bind, Sem.run_pure, Result.andThen_ok, List.map_toArray, List.map_cons, List.map_nil, hs, hx, hr]
    exact hK _ _ h

set_option maxHeartbeats 400000 in
theorem none_nil (w : World) : Calls Try.prog 109 #[.pointer none] w fun e w' => e = .returned (.bool true) ∧ w = w' := by
  go_enter Try.func109, Try.ntmps109
  go_wp2
  go_ret
  exact ⟨rfl, rfl⟩
set_option maxHeartbeats 400000 in
theorem none_zero {p : Nat} {w : World} {a b : Value} (h : Row w p 51 #[.int .i64 0, a, b]) : Calls Try.prog 109 #[.pointer (some ⟨p, 0, none⟩)] w fun e w' => e = .returned (.bool true) ∧ w = w' := by
  have c0 := h.read (i := 0) rfl
  clear h
  go_enter Try.func109, Try.ntmps109
  go_wp2
  go_ret
  exact ⟨rfl, rfl⟩
set_option maxHeartbeats 400000 in
theorem none_not {p : Nat} {room : Int} {w : World} {a b : Value} (h : Row w p 51 #[.int .i64 room, a, b]) (hr : 0 < room) : Calls Try.prog 109 #[.pointer (some ⟨p, 0, none⟩)] w fun e w' => e = .returned (.bool false) ∧ w = w' := by
  have c0 := h.read (i := 0) rfl
  have h0 : (room == 0) = false := by simp; omega
  clear h
  go_enter Try.func109, Try.ntmps109
  go_wp2
  go_ret
  exact ⟨rfl, rfl⟩

/-- new memory with these bytes -/
def Fresh (w : World) (l : List Nat) (g : Nat) (w' : World) : Prop := w.heap.size ≤ g ∧ (∃ cs : Array Value, Row w' g 5 cs ∧ ∀ (j b : Nat), l[j]? = some b → cs[j]? = some (Value.int .u8 (b : Nat))) ∧ Below w.heap.size w w'
def CopyDone (l : List Nat) (w : World) (e : Ending) (w' : World) : Prop := ∃ g, e = .returned (.slice (some ⟨g, 0, none⟩) l.length l.length) ∧ Fresh w l g w'

theorem copy_fresh {w : World} {A : Option Addr} {c : Nat} {l : List Nat} (hs : QSrcB w A (qbts l)) (h0 : 0 < l.length) (hn : l.length ≤ 1000000) :
    ∃ cap w', (Builtin.append_ #[34, 34] 34 #[.slice none 0 0, .slice A l.length c]).run Try.prog w = .ok (.slice (some ⟨w.heap.size, 0, none⟩) l.length cap) w' ∧ l.length ≤ cap ∧ cap ≤ maxLen ∧ Fresh w l w.heap.size w' := by
  obtain ⟨i, hi, hz, hsz, hb⟩ := qinfo5_parts
  obtain ⟨b, off, rfl, hc⟩ := hs (by rw [qlength_bts]; exact h0)
  have hr := run_append_nil (P := Try.prog) w 34 34 5 i _ Try.underlying34 hi hz ⟨b, off, none⟩ l.length c (qbts l) (by rw [hsz, Nat.mul_one, qlength_bts])
    (fun j u hu => by
      have := hc j u hu
      have e : (⟨b, off, none⟩ : Addr).add j = ⟨b, off + j, none⟩ := by
        unfold Addr.add
        split
        · rename_i h; rw [h]; rfl
        · rfl
      rw [e]; exact this) h0 (by omega) (by rw [hb]; omega)
  refine ⟨_, _, hr, grownCap_ge _ _ _ _, grownCap_le_maxLen _ _ _ _ (by unfold maxLen; omega), Nat.le_refl _, ⟨_, heap_alloc_new w.drew _, fun j x hx => ?_⟩, bl_alloc (bl_drew (Below.refl _ _)) _⟩
  have h1 := qbts_at hx
  have hl : j < (qbts l).length := (List.getElem?_eq_some_iff.1 h1).1
  rw [Array.getElem?_append_left (by simpa using hl)]
  simpa using h1

set_option maxHeartbeats 800000 in
theorem qcopied_any (A : Option Addr) (c : Nat) (l : List Nat) (w : World) (hs : QSrcB w A (qbts l)) (h0 : 0 < l.length) (hn : l.length ≤ 1000000) :
    Calls Try.prog 110 #[.slice A l.length c] w (CopyDone l w) := by
  obtain ⟨cap, w1, hr, hc1, hc2, hf⟩ := copy_fresh (c := c) hs h0 hn
  have HF : Hid (CopyDone l w (.returned (.slice (some ⟨w.heap.size, 0, none⟩) l.length l.length)) w1) := Lib.hid ⟨_, rfl, hf⟩
  have HR := Lib.hid hr
  unfold maxLen at hc2
  clear hr hf hs
  go_enter Try.func110, Try.ntmps110
  go_wp2_with (at_builtin; refine wpList_append_is rfl (.const (.slice none 0 0)) (.tmp 4) 34 rfl _ _ rfl rfl HR.out ?_)
  go_ret
  exact HF.out

set_option maxHeartbeats 400000 in
theorem qnew_any (B : Nat) (room : Int) (w : World) (hB : B ≤ w.heap.size) (h1 : 1 ≤ room) (h2 : room ≤ 20000) :
    Calls Try.prog 13 #[.int .i64 room] w fun e w' => e = .returned (.tuple #[.pointer (some ⟨w.heap.size, 0, none⟩), .int .i64 0]) ∧ QRep B w' w.heap.size room 0 [] ∧ Below w.heap.size w w' := by
  go_enter Try.func13, Try.ntmps13
  go_wp2
  go_ret2
  exact ⟨rfl, ⟨hB, by simp; omega, _, Row.made _ _ _, OwnX.nil, fun t h => by cases h⟩, bl_alloc (Below.refl _ _) _⟩
set_option maxHeartbeats 400000 in
theorem qnew_arg (room : Int) (w : World) (h : room < 1 ∨ 20000 < room) :
    Calls Try.prog 13 #[.int .i64 room] w fun e w' => e = .returned (.tuple #[.pointer none, .int .i64 1]) ∧ w = w' := by
  rcases h with h | h
  · go_enter Try.func13, Try.ntmps13
    go_wp2
    go_ret2
    exact ⟨rfl, rfl⟩
  · have h' : ¬ room < 1 := by omega
    go_enter Try.func13, Try.ntmps13
    go_wp2
    go_ret2
    exact ⟨rfl, rfl⟩

/-- how many bytes wait -/
def bytesF (ts : List Txt) : Nat := ts.foldl (fun n t => n + t.bs.length) 0
theorem bytesF_acc (n : Nat) (ts : List Txt) : ts.foldl (fun n t => n + t.bs.length) n = n + bytesF ts := by
  unfold bytesF
  induction ts generalizing n with
  | nil => simp
  | cons t r ih => rw [List.foldl_cons, List.foldl_cons, ih, ih (0 + _)]; omega
theorem bytesF_cons (t : Txt) (r : List Txt) : bytesF (t :: r) = t.bs.length + bytesF r := by
  have := bytesF_acc (0 + t.bs.length) r
  unfold bytesF at *
  rw [List.foldl_cons, this]
  omega
theorem bytesF_append (a b : List Txt) : bytesF (a ++ b) = bytesF a + bytesF b := by
  unfold bytesF
  rw [List.foldl_append]
  exact bytesF_acc _ b
theorem bytesF_snoc (ts : List Txt) (t : Txt) : bytesF (ts ++ [t]) = bytesF ts + t.bs.length := by rw [bytesF_append]; simp [bytesF]
theorem bytesF_take (ts : List Txt) (k : Nat) : bytesF (ts.take k) ≤ bytesF ts := by
  have h := bytesF_append (ts.take k) (ts.drop k)
  rw [List.take_append_drop] at h
  omega
theorem q_take_snoc {α : Type} {L : List α} {k : Nat} {y : α} (h : L[k]? = some y) : L.take (k + 1) = L.take k ++ [y] := by
  rw [List.take_add_one, h]
  rfl

set_option maxRecDepth 100000 in
set_option maxHeartbeats 1600000 in
theorem qbytes_any {B p last : Nat} {room : Int} {ts : List Txt} {w : World} (h : QRep B w p room last ts) (hr : 0 < room) (hb : bytesF ts ≤ 1000000000) :
    Calls Try.prog 26 #[.pointer (some ⟨p, 0, none⟩)] w fun e w' => e = .returned (.int .i64 (bytesF ts : Nat)) ∧ Below w.heap.size w w' := by
  obtain ⟨hB, hB2, sv, hrow, hown, hl⟩ := h
  have c2 : w.cell? ⟨p, 2, none⟩ = some sv := hrow.read rfl
  have HROW := Lib.hid hrow
  have HOWN := Lib.hid hown
  have HL := Lib.hid hl
  have HT := Lib.hid (bytesF_take ts)
  obtain ⟨A, cap, rfl, hcap, hmx⟩ := hown.shape
  unfold maxLen at hmx
  clear hrow hown hl
  go_enter Try.func26, Try.ntmps26
  go_wp2_with (go_at_call 109; refine (none_not HROW.out hr).mono ?_; rintro e _ ⟨rfl, rfl⟩)
  go_loopw [3, 13] (fun n i wr => ∃ k : Nat, k ≤ ts.length ∧ i = .int .i64 k ∧ n = .int .i64 (bytesF (ts.take k) : Nat) ∧ Below w.heap.size w wr) (fun _ i _ => ts.length - (intOf i).toNat)
  case atStart => exact ⟨0, by omega, rfl, rfl, Below.refl _ _⟩
  case round =>
    obtain ⟨k, hk, rfl, rfl, hbr⟩ := hrel
    have HBR := Lib.hid hbr
    clear hbr
    by_cases hlt : k < ts.length
    · obtain ⟨t, ht⟩ : ∃ t, ts[k]? = some t := ⟨_, List.getElem?_eq_getElem hlt⟩
      obtain ⟨g, cap', hv, hc1, hc2⟩ := HOWN.out.form (by omega)
      injection hv with hA _ hcc
      subst hA
      subst hcc
      have hcell := HOWN.out.cells (g := g) rfl
      obtain ⟨a0, a1, a2⟩ := txc_at ht
      have d0 := kept_box HBR.out (hcell _ _ a0)
      have d1 := kept_box HBR.out (hcell _ _ a1)
      have d2 := kept_box HBR.out (hcell _ _ a2)
      have hsum : bytesF (ts.take (k + 1)) = bytesF (ts.take k) + t.bs.length := by rw [q_take_snoc ht, bytesF_snoc]
      have hle := HT.out (k + 1)
      have HS := Lib.hid hsum
      rw [hsum] at hle
      obtain ⟨l1, l2, l3, _⟩ := HL.out t (List.mem_of_getElem? ht)
      clear hcell a0 a1 a2 hsum ht hc1 hc2
      unfold Txt.waits at d1
      have hi0 : (0 : Int) ≤ (k : Int) := by omega
      have hi1 : (k : Int) < (ts.length : Int) := by omega
      go_wp2
      go_roundw
      case rel => exact ⟨k + 1, by omega, by go_num, by rw [HS.out]; go_num, bl_alloc HBR.out _⟩
      case measure => simp [intOf]; omega
    · obtain rfl : k = ts.length := by omega
      have HE := Lib.hid (show bytesF (ts.take ts.length) = bytesF ts by rw [List.take_length])
      go_wp2
      go_ret
      exact ⟨ret_int (by rw [HE.out]), HBR.out⟩
end Go.Proofs.Ytbcjfdhphpckfaa
namespace Go.Proofs.Ytbcjfdhphpckfaa
open Go.RowKit

theorem step_run {P : Program} {ops : Array Oper} {o : Oper} {a : Act} {w : World} {K : Act → World → Prop} {Q : Exit → Act → World → Prop} {E : Prop} (hgd : o.guard = none) (s x : Operand) (t : TypeId)
    (ho : o.op = .call { callee := .builtin .append, args := #[s, x], argTypes := #[t, t] }) (v u : Value) (hs : a.eval s = v) (hx : a.eval x = u) {v' : Value} {w' : World}
    (hr : (Builtin.append_ #[t, t] o.type #[v, u]).run P w = .ok v' w') (h : K (a.put o.dst v') w') :
    if Region.wanted o (yielded ops a.tmps) = true then Oper.wp P o a w K Q else E := by
  have hw : Region.wanted o (yielded ops a.tmps) = true := by simp [Region.wanted, hgd]
  rw [if_pos hw]
  unfold Oper.wp execOp
  simp only [ho, resolve, invoke, builtin, Sem.run_bind, Sem.run_pure, Result.andThen_ok, List.map_toArray, List.map_cons, List.map_nil, hs, hx, hr]
  exact h
end Go.Proofs.Ytbcjfdhphpckfaa
namespace Go.Proofs.Ytbcjfdhphpckfaa
open Go.RowKit

/-- only rows of the types X, and new memory, have changed -/
structure KR (X : TypeId → Prop) (B : Nat) (w v : World) : Prop where
  base : B ≤ w.heap.size
  below : Below B w v
  size : w.heap.size ≤ v.heap.size
  rows : ∀ g t cs, Row w g t cs → ¬ X t → Row v g t cs
section
variable {w v u : World} {X Y : TypeId → Prop} {B : Nat}
theorem KR.refl (X : TypeId → Prop) (hB : B ≤ w.heap.size) : KR X B w w := ⟨hB, Below.refl _ _, Nat.le_refl _, fun _ _ _ h _ => h⟩
theorem KR.trans (h : KR X B w v) (h2 : KR X B v u) : KR X B w u := ⟨h.base, h.below.trans h2.below, Nat.le_trans h.size h2.size, fun g t cs hr hx => h2.rows g t cs (h.rows g t cs hr hx) hx⟩
theorem KR.weaker (h : KR X B w v) (hx : ∀ t, X t → Y t) : KR Y B w v := ⟨h.base, h.below, h.size, fun g t cs hr hy => h.rows g t cs hr fun hh => hy (hx t hh)⟩
theorem KR.of_below (hB : B ≤ w.heap.size) (h : Below w.heap.size w v) : KR X B w v := ⟨hB, h.mono hB, h.size, fun _ _ _ hr _ => hr.later h⟩
theorem KR.alloc (h : KR X B w v) (o : Obj) : KR X B w (v.alloc o) :=
  ⟨h.base, h.below.alloc (Nat.le_trans h.base h.size) o, Nat.le_trans h.size (bl_alloc (Below.refl _ _) o).size, fun g t cs hr hx => (h.rows g t cs hr hx).more o⟩
theorem KR.own {m E n : Nat} {x : Value} {xs : List Value} (h : KR X B w v) (ho : w.ownsRow m E 1 x n xs) (hE : ¬ X E) : v.ownsRow m E 1 x n xs := by
  refine ⟨ho.1, ?_⟩
  rcases ho.2 with h0 | ⟨g, cap, cur, rfl, hb, hh, h1⟩
  · exact .inl h0
  · exact .inr ⟨g, cap, cur, rfl, hb, h.rows g E cur hh hE, h1⟩
theorem KR.set {g i : Nat} {t : TypeId} {cs : Array Value} (hr : Row w g t cs) (hx : X t) (hg : B ≤ g) (hB : B ≤ w.heap.size) (x : Value) : KR X B w (w.setCell ⟨g, i, none⟩ x) := by
  have ho : Only (fun k => k = g) w (w.setCell ⟨g, i, none⟩ x) := (Only.refl (fun k => k = g) w).set (p := ⟨g, i, none⟩) (.inl rfl) x
  refine ⟨hB, ho.below hB (fun k hk e => by omega), ho.size, fun g' t' cs' hr' hn => hr'.only ho (fun e => ?_)⟩
  subst e
  unfold Row at hr hr'
  rw [hr] at hr'
  have e := Option.some.inj hr'
  cases e
  exact hn hx
theorem row_made_at {t : TypeId} {cs : Array Value} {g : Nat} (hg : w.heap.size = g) : Row (w.alloc (.cells cs t)) g t cs := by subst hg; exact Row.made _ _ _
theorem step_own {ops : Array Oper} {o : Oper} {a : Act} {K : Act → World → Prop} {Q : Exit → Act → World → Prop} {F : Prop} {n T E by' g : Nat} {z x u : Value} {xs : List Value} (hgd : o.guard = none) (s y : Operand)
    (ho : o.op = .call { callee := .builtin .append, args := #[s, y], argTypes := #[T, T] }) (hty : o.type = T) (hT : Try.prog.underlying T = some (.slice E)) (hI : (Try.prog.info? E).map (fun i => (i.zero, i.size, i.bytes)) = some (some z, 1, by')) (hz : z.cells.size = 1) (hby : by' ≤ 24) (hu : u.oneCell' = true)
    (hs : a.eval s = x) (hy : a.eval y = .slice (some ⟨g, 0, none⟩) 1 1) (hown : w.ownsRow B E 1 x n xs) (hrow : Row w g E #[u]) (hB : B ≤ w.heap.size) (hn : n ≤ 100000)
    (hK : ∀ A' c' w', w'.ownsRow B E 1 (.slice A' (n + 1) c') (n + 1) (xs ++ [u]) → KR (fun t => t = E) B w w' → K (a.put o.dst (.slice A' (n + 1) c')) w') :
    if Region.wanted o (yielded ops a.tmps) = true then Oper.wp Try.prog o a w K Q else F := by
  obtain ⟨i0, hi, hi0, hi1, hi2⟩ := info_parts hI
  obtain ⟨v', w2, hrun, hown2, hgr, _, hat⟩ := run_append_own_at (P := Try.prog) (w := w) B T T E i0 z 1 by' hT hi hi0 hi1 hi2 hz (by omega) x n xs hown ⟨g, 0, none⟩ 1 1 [u] rfl
    (fun j u' hu' => by
      match j, hu' with
      | 0, hu' =>
        simp only [List.getElem?_cons_zero, Option.some.injEq] at hu'
        subst hu'
        rw [add_zero_o]
        exact hrow.read rfl
      | j + 1, hu' => simp at hu') (by intro y hy; simp at hy; subst hy; exact hu) (by unfold maxLen; omega) (by have := Nat.mul_le_mul (show n + 1 ≤ 100001 by omega) hby; omega) hB
  have hon : Only (fun k => x.ownBlock = some k) w w2 := (Only.refl _ _).grown hgr (fun k hk => .inl hk)
  obtain ⟨A', c', rfl⟩ : ∃ A' c', v' = .slice A' (n + 1) c' := by
    rcases hown2.2 with ⟨_, e⟩ | ⟨g, cap, cur, e, _⟩
    · omega
    · exact ⟨some ⟨g, 0, none⟩, cap, e⟩
  refine step_run hgd s y T ho x (.slice (some ⟨g, 0, none⟩) 1 1) hs hy (by rw [hty]; exact hrun) (hK A' c' w2 hown2 ⟨hB, hon.below hB (fun k hk hk2 => by have := (own_block hown k hk2).1; omega), hon.size, fun g' t cs hr hne => hr.only hon (fun hk => ?_)⟩)
  exact own_apart hown hr (fun e => hne e.symm) hk
theorem step_copy {ops : Array Oper} {o : Oper} {a : Act} {K : Act → World → Prop} {Q : Exit → Act → World → Prop} {F : Prop} {A : Option Addr} {c n : Nat} {l : List Nat} (hgd : o.guard = none) (s y : Operand)
    (ho : o.op = .call { callee := .builtin .append, args := #[s, y], argTypes := #[34, 34] }) (hty : o.type = 34) (hs : a.eval s = .slice none 0 0) (hy : a.eval y = .slice A n c) (hl : l.length = n) (h0 : 0 < n) (hn : n ≤ 1000000) (hsrc : QSrcB w A (qbts l))
    (hK : ∀ g cap w', n ≤ cap → cap ≤ 9223372036854775807 → w.heap.size ≤ g → (∃ cs : Array Value, Row w' g 5 cs ∧ ∀ (j b : Nat), l[j]? = some b → cs[j]? = some (Value.int .u8 (b : Nat))) → Below w.heap.size w w' → K (a.put o.dst (.slice (some ⟨g, 0, none⟩) n cap)) w') :
    if Region.wanted o (yielded ops a.tmps) = true then Oper.wp Try.prog o a w K Q else F := by
  subst hl
  obtain ⟨cap, w1, hr, hc1, hc2, hf⟩ := copy_fresh (c := c) hsrc h0 hn
  exact step_run hgd s y 34 ho _ _ hs hy (by rw [hty]; exact hr) (hK _ cap w1 hc1 (by unfold maxLen at hc2; omega) hf.1 hf.2.1 hf.2.2)
end
end Go.Proofs.Ytbcjfdhphpckfaa
namespace Go.Proofs.Ytbcjfdhphpckfaa
open Go.RowKit

/-- a stronger condition may be held from here on -/
theorem wpAnyH_more {P : Program} {md : Region.Mode} {ops : Array Oper} {Q : Exit → Act → World → Prop} {S S' : World → Prop} : ∀ {fuel : Nat} {listed : Array Bool} {a : Act} {w : World}, wpAnyH P md ops Q S' fuel listed a w → (∀ w, S' w → S w) → wpAnyH P md ops Q S fuel listed a w
  | 0, _, _, _, h, _ => h
  | _ + 1, _, _, _, h, hs => ⟨h.1, fun i hi => wpOp_mono (fun _ _ h' => ⟨hs _ h'.1, wpAnyH_more h'.2 hs⟩) (h.2 i hi)⟩

theorem take_at {P : Program} {md : Region.Mode} {ops : Array Oper} {Q : Exit → Act → World → Prop} {S : World → Prop} (i t : Nat) {oi : Oper} {v : Value} {fuel : Nat} {listed : Array Bool} {a : Act} {w : World} (hi : ops[i]? = some oi) (hd : oi.dst = some t)
    (hs : Region.noSelect ops = true) (hf : Region.free md ops listed i = true) (hr : (Region.ready md ops listed).contains i = true)
    (hQ : ∀ c a w, Q (.panic c) (a.put oi.dst v) w → Q (.panic c) a w) (hy : YieldsIf P ops S oi v a) (hS : S w)
    (h : wpAnyH P md ops Q S fuel (listed.setIfInBounds i true) (a.put (some t) v) w) : wpAnyH P md ops Q S (fuel + 1) listed a w :=
  wpAnyH_take hi hs hf hr hQ hy hS (by rw [hd]; exact h)

/-- what of a frame is forgotten -/
theorem wp_of_frame {P : Program} {c : Code} {Q : Exit → Act → World → Prop} {a : Act} {w : World} (xs : List (Option Value)) (h : Fr xs a) (k : ∀ a', Fr xs a' → c.wp P Q a' w) : c.wp P Q a w := k a h
end Go.Proofs.Ytbcjfdhphpckfaa
namespace Go.Proofs.Ytbcjfdhphpckfaa
open Go.RowKit

theorem Try.info37 : (Try.prog.info? 37).map (fun i => (i.zero, i.size, i.bytes)) = some (some (.int .u64 0), 1, 8) := by kernel_rfl
theorem info37_parts : ∃ i, Try.prog.info? 37 = some i ∧ i.zero = some (.int .u64 0) ∧ i.size = 1 ∧ i.bytes = 8 := info_parts Try.info37

def idv (ts : List Txt) : List Value := ts.map fun t => .int .u64 t.id
theorem length_idv (ts : List Txt) : (idv ts).length = ts.length := by simp [idv]
def zero64 (n : Nat) : List Value := List.replicate n (.int .u64 0)
theorem make_ids (n : Nat) (h : n ≤ 1000000) (w : World) :
    (Instr.makeSlice 44 (.int .i64 (n : Int)) (.int .i64 (n : Int))).run Try.prog w = .ok (.slice (some ⟨w.heap.size, 0, none⟩) n n) (w.alloc (.cells (zero64 n).toArray 37)) := by
  obtain ⟨i, hi, hz, hs, hb⟩ := info37_parts
  have h := run_make (P := Try.prog) w 44 37 i _ Try.underlying44 hi hz .i64 .i64 n n (by omega) (Int.le_refl _) (by rw [hb]; omega) (by omega)
  rw [h, hs, Nat.mul_one, Int.toNat_natCast]
  have e : madeCells #[.int .u64 0] n = (zero64 n).toArray := by
    apply Array.toList_inj.1
    rw [toList_madeCells_one]
    simp [zero64]
  rw [← e]
  rfl
/-- the numbers so far, noughts behind -/
def idPart (ts : List Txt) (k : Nat) : List Value := idv (ts.take k) ++ zero64 (ts.length - k)
theorem idPart_step {ts : List Txt} {k : Nat} {t : Txt} (h : ts[k]? = some t) : (idPart ts k).set k (.int .u64 t.id) = idPart ts (k + 1) := by
  have hk : k < ts.length := (List.getElem?_eq_some_iff.1 h).1
  unfold idPart
  rw [q_take_snoc h]
  have e1 : (idv (ts.take k)).length = k := by rw [length_idv]; simp; omega
  have e2 : ts.length - k = (ts.length - (k + 1)) + 1 := by omega
  rw [e2]
  unfold zero64
  rw [List.replicate_succ, List.set_append_right _ _ (by omega), e1, Nat.sub_self, List.set_cons_zero]
  simp [idv]
theorem idPart_end (ts : List Txt) : idPart ts ts.length = idv ts := by simp [idPart, zero64]

/-- numbers handed out -/
def IdsDone (ts : List Txt) (w : World) (e : Ending) (w' : World) : Prop := ∃ g, e = .returned (.slice (some ⟨g, 0, none⟩) ts.length ts.length) ∧ w.heap.size ≤ g ∧ Row w' g 37 (idv ts).toArray ∧ Below w.heap.size w w'

set_option maxRecDepth 100000 in
set_option maxHeartbeats 1600000 in
theorem ids_any {B p last : Nat} {room : Int} {ts : List Txt} {w : World} (h : QRep B w p room last ts) (hr : 0 < room) (hl : ts.length ≤ 100000) :
    Calls Try.prog 28 #[.pointer (some ⟨p, 0, none⟩)] w (IdsDone ts w) := by
  obtain ⟨hB, hB2, sv, hrow, hown, _⟩ := h
  have c2 : w.cell? ⟨p, 2, none⟩ = some sv := hrow.read rfl
  have hrow2 := hrow.more (.cells (zero64 ts.length).toArray 37)
  have c3 : (w.alloc (.cells (zero64 ts.length).toArray 37)).cell? ⟨p, 2, none⟩ = some sv := hrow2.read rfl
  have HROW := Lib.hid hrow
  have HOWN := Lib.hid hown
  have hmk := make_ids ts.length (by omega) w
  have hr0 := Row.made w 37 (zero64 ts.length).toArray
  have HR0 := Lib.hid (show Row (w.alloc (.cells (zero64 ts.length).toArray 37)) w.heap.size 37 (idPart ts 0).toArray from by simpa [idPart, idv] using hr0)
  have HB0 := Lib.hid (bl_alloc (Below.refl w.heap.size w) (.cells (zero64 ts.length).toArray 37))
  obtain ⟨A, cap, rfl, hcap, hmx⟩ := hown.shape
  unfold maxLen at hmx
  clear hrow hown hrow2 hr0
  go_enter Try.func28, Try.ntmps28
  go_wp2_with (go_at_call 109; refine (none_not HROW.out hr).mono ?_; rintro e _ ⟨rfl, rfl⟩)
  go_loopw [19] (fun i wr => ∃ k : Nat, k ≤ ts.length ∧ i = .int .i64 k ∧ Row wr w.heap.size 37 (idPart ts k).toArray ∧ Below w.heap.size w wr) (fun i _ => ts.length - (intOf i).toNat)
  case atStart => exact ⟨0, by omega, rfl, HR0.out, HB0.out⟩
  case round =>
    obtain ⟨k, hk, rfl, hrw, hbr⟩ := hrel
    have HBR := Lib.hid hbr
    by_cases hlt : k < ts.length
    · obtain ⟨t, ht⟩ : ∃ t, ts[k]? = some t := ⟨_, List.getElem?_eq_getElem hlt⟩
      obtain ⟨g, cap', hv, hc1, hc2⟩ := HOWN.out.form (by omega)
      injection hv with hA _ hcc
      subst hA
      subst hcc
      have hcell := HOWN.out.cells (g := g) rfl
      obtain ⟨a0, a1, a2⟩ := txc_at ht
      have d0 := kept_box HBR.out (hcell _ _ a0)
      have d1 := kept_box HBR.out (hcell _ _ a1)
      have d2 := kept_box HBR.out (hcell _ _ a2)
      unfold Txt.waits at d1
      have hrw2 := hrw.more (.cells #[.int .u64 t.id, .slice (some ⟨t.g, t.off, none⟩) t.bs.length t.cap, .bool t.bg] 177)
      have e1 : (idPart ts k).length = ts.length := by unfold idPart; rw [List.length_append, length_idv]; simp [zero64]; omega
      have hsome : ∃ x, (idPart ts k).toArray[k]? = some x := ⟨_, Array.getElem?_eq_getElem (by simp; omega)⟩
      obtain ⟨x, hx⟩ := hsome
      have cz := hrw2.read hx
      have fz := hrw2.free k
      have hst := hrw2.written k (.int .u64 t.id)
      have HST := Lib.hid (show Row ((wr.alloc (.cells #[.int .u64 t.id, .slice (some ⟨t.g, t.off, none⟩) t.bs.length t.cap, .bool t.bg] 177)).setCell ⟨w.heap.size, k, none⟩ (.int .u64 t.id)) w.heap.size 37 (idPart ts (k + 1)).toArray from by
        rw [← idPart_step ht]; simpa using hst)
      have HBN := Lib.hid (((Only.of_below (S := fun k => k = w.heap.size) HBR.out).alloc (.cells #[.int .u64 t.id, .slice (some ⟨t.g, t.off, none⟩) t.bs.length t.cap, .bool t.bg] 177)).set (p := ⟨w.heap.size, k, none⟩) (.inl rfl) (.int .u64 t.id) |>.below (Nat.le_refl _) (fun k hk hh => by omega))
      clear hcell a0 a1 a2 ht hc1 hc2 hrw hrw2 hst hx hbr e1
      have hi0 : (0 : Int) ≤ (k : Int) := by omega
      have hi1 : (k : Int) < (ts.length : Int) := by omega
      go_wp2
      go_roundw
      case rel => exact ⟨k + 1, by omega, by go_num, HST.out, HBN.out⟩
      case measure => simp [intOf]; omega
    · obtain rfl : k = ts.length := by omega
      rw [idPart_end] at hrw
      have HF : Hid (IdsDone ts w (.returned (.slice (some ⟨w.heap.size, 0, none⟩) ts.length ts.length)) wr) := Lib.hid ⟨_, rfl, Nat.le_refl _, hrw, HBR.out⟩
      clear hrw hbr
      go_wp2
      go_ret
      exact HF.out

/-- where the text of a number stands -/
def placeF (id : Nat) (ts : List Txt) : Nat := ts.findIdx fun t => t.id == id
theorem placeF_le (id : Nat) (ts : List Txt) : placeF id ts ≤ ts.length := List.findIdx_le_length
theorem place_before {id k : Nat} {ts : List Txt} {t : Txt} (h : ts[k]? = some t) (hk : k < placeF id ts) : t.id ≠ id := by
  have hlt : k < ts.length := (List.getElem?_eq_some_iff.1 h).1
  have := List.not_of_lt_findIdx (p := fun t : Txt => t.id == id) hk
  have e : ts[k] = t := (List.getElem?_eq_some_iff.1 h).2
  rw [e] at this
  simpa using this
theorem place_at {id : Nat} {ts : List Txt} {t : Txt} (h : ts[placeF id ts]? = some t) : t.id = id := by
  have hlt : placeF id ts < ts.length := (List.getElem?_eq_some_iff.1 h).1
  have := List.findIdx_getElem (p := fun t : Txt => t.id == id) (w := hlt)
  have e : ts[placeF id ts] = t := (List.getElem?_eq_some_iff.1 h).2
  unfold placeF at e
  rw [e] at this
  simpa using this

set_option maxRecDepth 100000 in
set_option maxHeartbeats 1600000 in
theorem place_any {B p last id : Nat} {room : Int} {ts : List Txt} {w : World} (h : QRep B w p room last ts) :
    Calls Try.prog 113 #[.pointer (some ⟨p, 0, none⟩), .int .u64 id] w fun e w' => e = .returned (.int .i64 (placeF id ts : Nat)) ∧ w = w' := by
  obtain ⟨hB, hB2, sv, hrow, hown, _⟩ := h
  have c2 : w.cell? ⟨p, 2, none⟩ = some sv := hrow.read rfl
  have HOWN := Lib.hid hown
  obtain ⟨A, cap, rfl, hcap, hmx⟩ := hown.shape
  unfold maxLen at hmx
  have hple := placeF_le id ts
  clear hrow hown
  have step : ∀ k, k ≤ placeF id ts → (k = placeF id ts ∧ (k = ts.length ∨ ∃ t g, ts[k]? = some t ∧ t.id = id ∧ A = some ⟨g, 0, none⟩ ∧ w.cell? ⟨g, k * 3, none⟩ = some (.int .u64 t.id))) ∨
      (k < placeF id ts ∧ ∃ t g, ts[k]? = some t ∧ t.id ≠ id ∧ A = some ⟨g, 0, none⟩ ∧ w.cell? ⟨g, k * 3, none⟩ = some (.int .u64 t.id)) := by
    intro k hk
    rcases Nat.lt_or_ge k ts.length with hlt | hge
    · obtain ⟨t, ht⟩ : ∃ t, ts[k]? = some t := ⟨_, List.getElem?_eq_getElem hlt⟩
      obtain ⟨g, cap', hv, hc1, hc2⟩ := HOWN.out.form (by omega)
      injection hv with hA _ hcc
      have hcell := HOWN.out.cells (g := g) (by rw [hA]; rfl)
      obtain ⟨a0, _, _⟩ := txc_at ht
      have d0 := hcell _ _ a0
      rcases Nat.lt_or_ge k (placeF id ts) with h1 | h1
      · exact .inr ⟨h1, t, g, ht, place_before ht h1, hA, d0⟩
      · obtain rfl : k = placeF id ts := by omega
        exact .inl ⟨rfl, .inr ⟨t, g, ht, place_at ht, hA, d0⟩⟩
    · exact .inl ⟨by omega, .inl (by omega)⟩
  have HSTEP := Lib.hid step
  clear step
  generalize placeF id ts = P at *
  go_enter Try.func113, Try.ntmps113
  go_wp2
  refine wp_scope_jumps 0 (fun a' w' => ∃ k : Nat, k ≤ P ∧ Fr [some (.pointer (some ⟨p, 0, none⟩)), some (.int .u64 id), none, none, none, some (.int .i64 k), none, none, none, none, none, none, none, none, none, none, none, none, none, none, none, none, none, none, none, none, none, none] a' ∧ w' = w) (fun a' _ => P - (intOf (a'.tmps.getD 5 undef)).toNat) rfl ?_ ?_
  · rcases HSTEP.out 0 (by omega) with ⟨h1, h2 | ⟨t, g, ht, hid, rfl, d0⟩⟩ | ⟨h1, t, g, ht, hid, rfl, d0⟩
    · have h1a : P ≤ 0 := by omega
      have h2a : ts.length ≤ 0 := by omega
      clear h1 h2
      go_wp2
      go_step3
      go_wp2
      simp only [Exit.jump]
      go_ret
      exact ⟨ret_int (by omega), rfl⟩
    · have hlt : 0 < ts.length := (List.getElem?_eq_some_iff.1 ht).1
      have hne : ((t.id : Int) != (id : Int)) = false := by simp; omega
      simp only [Nat.zero_mul] at d0
      have h1a : P ≤ 0 := by omega
      clear ht hid h1
      go_wp2
      go_step3
      go_wp2
      simp only [Exit.jump]
      go_ret
      exact ⟨ret_int (by omega), rfl⟩
    · have hlt : 0 < ts.length := (List.getElem?_eq_some_iff.1 ht).1
      have hne : ((t.id : Int) != (id : Int)) = true := by simp; omega
      simp only [Nat.zero_mul] at d0
      clear ht hid
      go_wp2
      go_step3
      go_wp2
      go_step3
      refine ⟨rfl, 1, by omega, ?_, rfl⟩
      simp only [Fr, Holes]
      repeat apply Exists.intro
      rfl
  · rintro a' w' ⟨k, hk, hfr, rfl⟩
    simp only [Fr, Holes] at hfr
    repeat (obtain ⟨_, hfr⟩ := hfr)
    rcases HSTEP.out k hk with ⟨h1, h2 | ⟨t, g, ht, hid, rfl, d0⟩⟩ | ⟨h1, t, g, ht, hid, rfl, d0⟩
    · have h1a : P ≤ k := by omega
      have h2a : ts.length ≤ k := by omega
      clear h1 h2
      go_wp2
      simp only [Exit.jump]
      go_ret
      exact ⟨ret_int (by omega), rfl⟩
    · have hlt : k < ts.length := (List.getElem?_eq_some_iff.1 ht).1
      have hne : ((t.id : Int) != (id : Int)) = false := by simp; omega
      have hi0 : (0 : Int) ≤ (k : Int) := by omega
      have hi1 : (k : Int) < (ts.length : Int) := by omega
      have h1a : P ≤ k := by omega
      clear ht hid h1
      go_wp2
      simp only [Exit.jump]
      go_ret
      exact ⟨ret_int (by omega), rfl⟩
    · have hlt : k < ts.length := (List.getElem?_eq_some_iff.1 ht).1
      have hne : ((t.id : Int) != (id : Int)) = true := by simp; omega
      have hi0 : (0 : Int) ≤ (k : Int) := by omega
      have hi1 : (k : Int) < (ts.length : Int) := by omega
      clear ht hid
      go_wp2
      go_step3
      refine ⟨rfl, ⟨k + 1, by omega, ?_, rfl⟩, ?_⟩
      · simp only [Fr, Holes]
        repeat apply Exists.intro
        rfl
      · simp [intOf]; omega
end Go.Proofs.Ytbcjfdhphpckfaa
namespace Go.Proofs.Ytbcjfdhphpckfaa
open Go.RowKit

/-- a queue's own blocks: itself, and lists of texts -/
def QT (B : Nat) (w : World) (k : Nat) : Prop := B ≤ k ∧ ∃ t cs, Row w k t cs ∧ (t = 51 ∨ t = 177)
def QOnly (B : Nat) (w w' : World) : Prop := Only (QT B w) w w'
theorem QT.back {B : Nat} {w w' : World} {S : Nat → Prop} (h : Only S w w') {k : Nat} (hk : k < w.heap.size) (hq : QT B w' k) (hn : ¬ S k) : QT B w k := by
  obtain ⟨h1, t, cs, h2, h3⟩ := hq
  exact ⟨h1, t, cs, by unfold Row at h2 ⊢; rw [← h.same k hk hn]; exact h2, h3⟩
theorem QOnly.trans {B : Nat} {w v u : World} (h : QOnly B w v) (h' : QOnly B v u) : QOnly B w u :=
  h.andThen h' fun k hk hq => by
    rcases Classical.em (QT B w k) with h1 | h1
    · exact h1
    · exact hq.back h hk h1
theorem QOnly.of_below {B : Nat} {w v : World} (h : Below w.heap.size w v) : QOnly B w v := Only.of_below h
theorem QOnly.refl (B : Nat) (w : World) : QOnly B w w := Only.refl _ _
theorem QOnly.below {B : Nat} {w v : World} (h : QOnly B w v) (hB : B ≤ w.heap.size) : Below B w v := Only.below h hB fun k hk hq => by have := hq.1; omega
theorem QOnly.row {B : Nat} {w v : World} (h : QOnly B w v) {g : Nat} {t : TypeId} {cs : Array Value} (hr : Row w g t cs) (h1 : t ≠ 51) (h2 : t ≠ 177) : Row v g t cs :=
  hr.only h fun ⟨_, t', cs', hr', ht⟩ => by
    unfold Row at hr hr'
    rw [hr] at hr'
    injection hr' with hr'
    injection hr' with _ hr'
    subst hr'
    rcases ht with ht | ht
    · exact h1 ht
    · exact h2 ht
theorem QT.self {B p : Nat} {w : World} {cs : Array Value} (hp : B ≤ p) (h : Row w p 51 cs) : QT B w p := ⟨hp, _, _, h, .inl rfl⟩
theorem QT.list {B : Nat} {w : World} {v : Value} {n : Nat} {xs : List Value} (h : OwnX w B 177 3 v n xs) : ∀ k, v.ownBlock = some k → QT B w k := by
  intro k hk
  rcases h.2 with ⟨rfl, _⟩ | ⟨g, cap, cur, rfl, hb, hh, _⟩
  · simp [Value.ownBlock] at hk
  · have e : g = k := by simpa [Value.ownBlock] using hk
    subst e
    exact ⟨hb, _, _, hh, .inr rfl⟩
theorem OwnX.apart {w : World} {B e size : Nat} {v : Value} {n : Nat} {xs : List Value} (h : OwnX w B e size v n xs) {g : Nat} {t : TypeId} {cs : Array Value} (hr : Row w g t cs) (hne : e ≠ t) : v.ownBlock ≠ some g := by
  rcases h.2 with ⟨rfl, _⟩ | ⟨g', cap, cur, rfl, _, hh, _⟩
  · simp [Value.ownBlock]
  · intro he
    have e1 : g' = g := by simpa [Value.ownBlock] using he
    subst e1
    unfold Row at hr
    rw [hh] at hr
    injection hr with hr
    injection hr with _ hr
    exact hne hr
theorem Txt.lies.q {B : Nat} {w v : World} {t : Txt} (h : t.lies B w) (ho : QOnly B w v) : t.lies B v := by
  obtain ⟨h1, h2, h3, cs, h4, h5⟩ := h
  exact ⟨h1, h2, h3, cs, ho.row h4 (by decide) (by decide), h5⟩

theorem erase_txc (ts : List Txt) (k : Nat) : txc (ts.eraseIdx k) = txc (ts.take k) ++ txc (ts.drop (k + 1)) := by
  rw [List.eraseIdx_eq_take_drop_succ, txc_append]

set_option maxRecDepth 100000 in
/-- the list without one text, laid into new memory -/
theorem drop_append {B p last k g cap : Nat} {room : Int} {ts : List Txt} {w : World} (hp : B ≤ p) (hB : B ≤ w.heap.size) (hrow : Row w p 51 #[.int .i64 room, .int .u64 last, .slice (some ⟨g, 0, none⟩) ts.length cap])
    (hown : OwnX w B 177 3 (.slice (some ⟨g, 0, none⟩) ts.length cap) ts.length (txc ts)) (hl : ∀ t ∈ ts, t.lies B w) (hk : k < ts.length) (hn : ts.length ≤ 1000) (ad : Addr) (had : cap ≠ k + 1 → ad = ⟨g, (k + 1) * 3, none⟩) :
    ∃ A' n' cap' w', (Builtin.append_ #[49, 49] 49 #[.slice (some ⟨g, 0, none⟩) k k, .slice (some ad) (ts.length - (k + 1)) (cap - (k + 1))]).run Try.prog w = .ok (.slice A' n' cap') w' ∧
      Row w' p 51 #[.int .i64 room, .int .u64 last, .slice (some ⟨g, 0, none⟩) ts.length cap] ∧
      QRep B (w'.setCell ⟨p, 2, none⟩ (.slice A' n' cap')) p room last (ts.eraseIdx k) ∧ QOnly B w (w'.setCell ⟨p, 2, none⟩ (.slice A' n' cap')) := by
  obtain ⟨i0, hi, hi0, hi1, hi2⟩ := info177_parts
  obtain ⟨g1, cap1, hv, hc1, hc2⟩ := hown.form (by omega)
  injection hv with hA _ hcc
  subst hcc
  have hfront := hown.front (m := k) (by omega) _ _ rfl (by omega)
  rw [txc_take] at hfront
  have hlen : (txc (ts.drop (k + 1))).length = (ts.length - (k + 1)) * 3 := by rw [length_txc, List.length_drop]
  obtain ⟨v', w', hr, h2, h3, h4⟩ := run_append_x (P := Try.prog) (w := w) (ty := 49) Try.underlying49 hi hi0 hi1 hi2 rfl hfront ad (ts.length - (k + 1)) (cap - (k + 1)) (txc (ts.drop (k + 1))) hlen
    (fun j u hu => by
      have hj : j < (txc (ts.drop (k + 1))).length := (List.getElem?_eq_some_iff.1 hu).1
      have hne : cap ≠ k + 1 := by omega
      rw [had hne]
      have e : (⟨g, (k + 1) * 3, none⟩ : Addr).add j = ⟨g, (k + 1) * 3 + j, none⟩ := by
        unfold Addr.add
        split
        · rename_i h; rw [h]; rfl
        · rfl
      rw [e]
      refine hown.cells (g := g) rfl _ _ ?_
      rw [← hu, ← txc_drop, List.getElem?_drop]) (txc_one _) (by omega) (by omega) hB
  obtain ⟨A', cap', rfl, _, _⟩ := h2.shape
  have happ : (Value.slice (some ⟨g, 0, none⟩) k k).ownBlock ≠ some p := hfront.apart hrow (by decide)
  have hrow' : Row w' p 51 #[.int .i64 room, .int .u64 last, .slice (some ⟨g, 0, none⟩) ts.length cap] := (h3.block p hrow.inside (fun e => happ e.symm)).trans hrow
  have hq1 : QOnly B w w' := (Only.refl _ _).grown h3 (fun j hj => .inl (QT.list hfront j hj))
  have hq2 : QOnly B w' (w'.setCell ⟨p, 2, none⟩ (.slice A' (k + (ts.length - (k + 1))) cap')) := (Only.refl _ _).set (p := ⟨p, 2, none⟩) (.inl (QT.self hp hrow')) _
  refine ⟨_, _, _, w', hr, hrow', ⟨hp, ?_, _, hrow'.written 2 _, ?_, fun t ht => ?_⟩, hq1.trans hq2⟩
  · have := hq1.size; have := hq2.size; omega
  · have e1 : (ts.eraseIdx k).length = k + (ts.length - (k + 1)) := by rw [List.length_eraseIdx, if_pos hk]; omega
    rw [e1, erase_txc]
    exact h2.only (S := fun j => j = p) ((Only.refl (fun j => j = p) _).set (p := ⟨p, 2, none⟩) (.inl rfl) _) (fun j hj e => by subst e; exact h2.apart hrow' (by decide) hj)
  · exact ((hl t (List.mem_of_mem_eraseIdx ht)).q hq1).q hq2

set_option maxRecDepth 100000 in
set_option maxHeartbeats 1600000 in
theorem remove_any {B p last k : Nat} {room : Int} {ts : List Txt} {w : World} (h : QRep B w p room last ts) (hk : k < ts.length) (hn : ts.length ≤ 1000) :
    Calls Try.prog 111 #[.pointer (some ⟨p, 0, none⟩), .int .i64 k] w fun e w' => e = .returned (.tuple #[]) ∧ QRep B w' p room last (ts.eraseIdx k) ∧ QOnly B w w' := by
  obtain ⟨hB, hB2, sv, hrow, hown, hl⟩ := h
  obtain ⟨g, cap, rfl, hc1, hc2⟩ := hown.form (by omega)
  unfold maxLen at hc2
  have c2 : w.cell? ⟨p, 2, none⟩ = some (.slice (some ⟨g, 0, none⟩) ts.length cap) := hrow.read rfl
  have f2 := hrow.free 2
  by_cases hce : cap = k + 1
  · obtain ⟨A', n', cap', w', hr, hr', hq, ho⟩ := drop_append (w := w.drew) hB hB2 hrow hown hl hk hn ⟨g, 0, none⟩ (fun h => absurd hce h)
    subst hce
    have hz : ts.length - (k + 1) = 0 := by omega
    rw [Nat.sub_self, hz] at hr
    have HZ := Lib.hid hz
    clear hz
    have HR := Lib.hid hr
    have HQ := Lib.hid hq
    have HO := Lib.hid ho
    have d2 : w'.cell? ⟨p, 2, none⟩ = some (.slice (some ⟨g, 0, none⟩) ts.length (k + 1)) := hr'.read rfl
    have e2 := hr'.free 2
    have hi0 : (0 : Int) ≤ (k : Int) := by omega
    have hi1 : (k : Int) < (ts.length : Int) := by omega
    have hkc : k ≤ k + 1 := by omega
    have hkl : k + 1 ≤ ts.length := by omega
    have hw0 : (0 : Int) ≤ (k : Int) + 1 := by omega
    have hx0 : (k : Int) ≤ (k : Int) + 1 := by omega
    have hx1 : (k : Int) + 1 ≤ (ts.length : Int) := by omega
    have hw1 : ((k : Int) + 1).toNat = k + 1 := by omega
    have hw : IntKind.i64.wrap ((k : Int) + 1) = (k : Int) + 1 := IntWalk.i64_in _ (by omega)
    clear hr hq ho hr' hrow hown hl
    go_enter Try.func111, Try.ntmps111
    go_region_law (refine step_run rfl (.tmp 11) (.tmp 18) 49 rfl (.slice (some ⟨g, 0, none⟩) k k) (.slice (some ⟨g, 0, none⟩) 0 0) (by rfl) (by rfl) HR.out ?_)
    all_goals
      go_end0
      exact ⟨rfl, HQ.out, (show QOnly B w w.drew from Only.drew (Only.refl _ _) ).trans HO.out⟩
  · obtain ⟨A', n', cap', w', hr, hr', hq, ho⟩ := drop_append (w := w.drew) hB hB2 hrow hown hl hk hn ⟨g, (k + 1) * 3, none⟩ (fun _ => rfl)
    have HR := Lib.hid hr
    have HQ := Lib.hid hq
    have HO := Lib.hid ho
    have d2 : w'.cell? ⟨p, 2, none⟩ = some (.slice (some ⟨g, 0, none⟩) ts.length cap) := hr'.read rfl
    have e2 := hr'.free 2
    have hi0 : (0 : Int) ≤ (k : Int) := by omega
    have hi1 : (k : Int) < (ts.length : Int) := by omega
    have hkc : k ≤ cap := by omega
    have hkl : k + 1 ≤ ts.length := by omega
    have hkl2 : k + 1 ≤ cap := by omega
    have hw0 : (0 : Int) ≤ (k : Int) + 1 := by omega
    have hx0 : (k : Int) ≤ (k : Int) + 1 := by omega
    have hx1 : (k : Int) + 1 ≤ (ts.length : Int) := by omega
    have hw1 : ((k : Int) + 1).toNat = k + 1 := by omega
    have hw : IntKind.i64.wrap ((k : Int) + 1) = (k : Int) + 1 := IntWalk.i64_in _ (by omega)
    clear hr hq ho hr' hrow hown hl
    go_enter Try.func111, Try.ntmps111
    go_region_law (refine step_run rfl (.tmp 11) (.tmp 18) 49 rfl (.slice (some ⟨g, 0, none⟩) k k) (.slice (some ⟨g, (k + 1) * 3, none⟩) (ts.length - (k + 1)) (cap - (k + 1))) (by rfl) (by rfl) HR.out ?_)
    all_goals
      go_end0
      exact ⟨rfl, HQ.out, (show QOnly B w w.drew from Only.drew (Only.refl _ _) ).trans HO.out⟩
end Go.Proofs.Ytbcjfdhphpckfaa
