/-
  The calls of package spans that only ask: how many, all, one of them, the spans, the gaps; and what takes out.
-/
import Derived.Test.YtmaefeckkodllaaSpanClos
import Derived.Laws.CopyOwn
namespace Go.Proofs.Ytmaefeckkodllaa
open Go.RowKit

theorem made1 (w : World) (o : Obj) (t : TypeId) (cs : Array Value) : Row ((w.alloc o).alloc (.cells cs t)) (w.heap.size + 1) t cs := by
  have := Row.made (w.alloc o) t cs
  simpa using this
theorem made2 (w : World) (o o' : Obj) (t : TypeId) (cs : Array Value) : Row (((w.alloc o).alloc o').alloc (.cells cs t)) (w.heap.size + 2) t cs := by
  have := made1 (w.alloc o) o' t cs
  simpa using this
theorem take_snoc {α : Type} {L : List α} {k : Nat} {y : α} (h : L[k]? = some y) : L.take (k + 1) = L.take k ++ [y] := by
  rw [List.take_add_one, h]
  rfl
theorem bl_only {B : Nat} {S : Nat → Prop} {w a b : World} (h : Below B w a) (ho : Only S a b) (hS : ∀ k, k < B → ¬ S k) (hB : B ≤ a.heap.size) : Below B w b := h.trans (ho.below hB hS)
theorem bl_size {w a : World} (h : Below w.heap.size w a) : w.heap.size ≤ a.heap.size := h.size
theorem countF_le {L : List (Int × Int)} (h : ∀ y ∈ L, 0 ≤ y.1 ∧ y.1 ≤ y.2 ∧ y.2 ≤ 65536) : 0 ≤ countF L ∧ countF L ≤ 65536 * L.length := by
  induction L with
  | nil => simp [countF_nil]
  | cons y r ih =>
    have h1 := h y (List.mem_cons_self ..)
    have h2 := ih fun z hz => h z (List.mem_cons_of_mem _ hz)
    rw [countF_cons]
    simp
    omega
theorem Norm.each {L : List (Int × Int)} (h : Norm 0 L) : ∀ y ∈ L, 0 ≤ y.1 ∧ y.1 ≤ y.2 ∧ y.2 ≤ 65536 := fun y hy => by have := h.mem hy; omega
theorem Norm.at_ {L : List (Int × Int)} (h : Norm 0 L) {k : Nat} {y : Int × Int} (hy : L[k]? = some y) : 0 ≤ y.1 ∧ y.1 ≤ y.2 ∧ y.2 ≤ 65536 := h.each y (List.mem_of_getElem? hy)

theorem each_count {B p nb : Nat} {sv : Value} {L : List (Int × Int)} {w0 w : World} (hr : SRep B w0 p sv L) (hn : Norm 0 L) (hl : L.length ≤ 100000) (hb : Below w0.heap.size w0 w) (hnb : w0.heap.size ≤ nb) (hrow : Row w nb 3 #[.int .i64 0]) :
    Calls Try.prog 47 #[.pointer (some ⟨p, 0, none⟩), .func (.func 52) #[] #[.pointer (some ⟨nb, 0, none⟩)]] w fun e w' => e = .returned (.tuple #[]) ∧ Row w' nb 3 #[.int .i64 (countF L)] ∧ Below w0.heap.size w0 w' := by
  refine (each_any (B := B) (sv := sv) (L := L) (by omega) (fun k W => Row W nb 3 #[.int .i64 (countF (L.take k))] ∧ Below w0.heap.size w0 W) w ⟨by simpa [countF_nil] using hrow, hb⟩ (fun k W h => hr.later h.2) (fun k W y hy h => ?_)).mono (fun e w' h => ⟨h.1, by simpa using h.2.1, h.2.2⟩)
  have hc := countF_le (L := L.take k) (fun z hz => hn.each z (List.mem_of_mem_take hz))
  have hk : (L.take k).length ≤ L.length := by simp; omega
  refine (count1_any y h.1 (by omega) (hn.at_ hy)).mono ?_
  rintro e w' ⟨rfl, h1, h2⟩
  refine ⟨rfl, ?_, bl_only h.2 h2 (fun k hk => by omega) h.2.size⟩
  rw [take_snoc hy, countF_snoc]
  exact h1

set_option maxHeartbeats 400000 in
theorem count_any {B p : Nat} {sv : Value} {L : List (Int × Int)} {w : World} (hr : SRep B w p sv L) (hn : Norm 0 L) (hl : L.length ≤ 100000) :
    Calls Try.prog 16 #[.pointer (some ⟨p, 0, none⟩)] w fun e w' => e = .returned (.int .i64 (countF L)) ∧ Below w.heap.size w w' := by
  have HE := Lib.hid (fun w1 => each_count (w := w1) (nb := w.heap.size) hr hn hl)
  have HR := Lib.hid hr
  clear hr
  go_enter Try.func16, Try.ntmps16
  go_wp2_with fail
  refine (HE.out _ ?_ (Nat.le_refl _) ?_).mono ?_
  · exact bl_alloc (Below.refl _ _) _
  · exact Row.made _ _ _
  rintro e w1 ⟨rfl, h1, hb⟩
  have c0 := h1.read (i := 0) rfl
  have HB := Lib.hid hb
  clear h1 hb
  go_wp2
  go_ret
  exact ⟨rfl, HB.out⟩

theorem each_has {B p hb xb : Nat} {sv : Value} {L : List (Int × Int)} {x : Int × Int} {w0 w : World} (hr : SRep B w0 p sv L) (hbl : Below w0.heap.size w0 w) (hnb : w0.heap.size ≤ hb) (hrow : Row w hb 4 #[.bool false]) (hx : Row w xb 24 #[.int .i64 x.1, .int .i64 x.2]) :
    Calls Try.prog 47 #[.pointer (some ⟨p, 0, none⟩), .func (.func 55) #[] #[.pointer (some ⟨hb, 0, none⟩), .pointer (some ⟨xb, 0, none⟩)]] w fun e w' => e = .returned (.tuple #[]) ∧ Row w' hb 4 #[.bool (hasF x L)] ∧ Row w' xb 24 #[.int .i64 x.1, .int .i64 x.2] ∧ Below w0.heap.size w0 w' := by
  refine (each_any (B := B) (sv := sv) (L := L) (by omega) (fun k W => Row W hb 4 #[.bool (hasF x (L.take k))] ∧ Row W xb 24 #[.int .i64 x.1, .int .i64 x.2] ∧ Below w0.heap.size w0 W) w ⟨by simpa [hasF] using hrow, hx, hbl⟩ (fun k W h => hr.later h.2.2) (fun k W y hy h => ?_)).mono (fun e w' h => ⟨h.1, by simpa using h.2.1, h.2.2⟩)
  refine (has1_any y (hasF x (L.take (k + 1))) (by rw [take_snoc hy]; simp [hasF]) h.1 h.2.1).mono ?_
  rintro e w' ⟨rfl, h1, h2⟩
  exact ⟨rfl, h1, h.2.1.only h2 (fun e => h.1.apart h.2.1 (by decide) e.symm), bl_only h.2.2 h2 (fun k hk => by omega) h.2.2.size⟩
theorem each_tou {B p hb xb : Nat} {sv : Value} {L : List (Int × Int)} {x : Int × Int} {w0 w : World} (hr : SRep B w0 p sv L) (hbl : Below w0.heap.size w0 w) (hnb : w0.heap.size ≤ hb) (hrow : Row w hb 4 #[.bool false]) (hx : Row w xb 24 #[.int .i64 x.1, .int .i64 x.2]) :
    Calls Try.prog 47 #[.pointer (some ⟨p, 0, none⟩), .func (.func 56) #[] #[.pointer (some ⟨hb, 0, none⟩), .pointer (some ⟨xb, 0, none⟩)]] w fun e w' => e = .returned (.tuple #[]) ∧ Row w' hb 4 #[.bool (touF x L)] ∧ Row w' xb 24 #[.int .i64 x.1, .int .i64 x.2] ∧ Below w0.heap.size w0 w' := by
  refine (each_any (B := B) (sv := sv) (L := L) (by omega) (fun k W => Row W hb 4 #[.bool (touF x (L.take k))] ∧ Row W xb 24 #[.int .i64 x.1, .int .i64 x.2] ∧ Below w0.heap.size w0 W) w ⟨by simpa [touF] using hrow, hx, hbl⟩ (fun k W h => hr.later h.2.2) (fun k W y hy h => ?_)).mono (fun e w' h => ⟨h.1, by simpa using h.2.1, h.2.2⟩)
  refine (tou1_any y (touF x (L.take (k + 1))) (by rw [take_snoc hy]; simp [touF]) h.1 h.2.1).mono ?_
  rintro e w' ⟨rfl, h1, h2⟩
  exact ⟨rfl, h1, h.2.1.only h2 (fun e => h.1.apart h.2.1 (by decide) e.symm), bl_only h.2.2 h2 (fun k hk => by omega) h.2.2.size⟩

set_option maxHeartbeats 800000 in
theorem has_any {B p : Nat} {sv : Value} {L : List (Int × Int)} {w : World} (x : Int × Int) (hr : SRep B w p sv L) (v : Bool) (hv : (hasF x L && rightB x) = v) :
    Calls Try.prog 25 #[.pointer (some ⟨p, 0, none⟩), spv x] w fun e w' => e = .returned (.bool v) ∧ Below w.heap.size w w' := by
  obtain ⟨a, b⟩ := x
  have HE := Lib.hid (fun w1 => each_has (w := w1) (hb := w.heap.size + 1) (xb := w.heap.size) (x := (a, b)) hr)
  have HV := Lib.hid hv
  clear hr hv
  show Calls Try.prog 25 #[_, .agg #[.int .i64 a, .int .i64 b]] w _
  generalize hasF (a, b) L = h at *
  go_enter Try.func25, Try.ntmps25
  go_wp2_with fail
  refine (HE.out _ ?_ (by omega) ?_ ?_).mono ?_
  · exact bl_alloc (bl_alloc (Below.refl _ _) _) _
  · exact made1 _ _ _ _
  · exact (Row.made _ _ _).more _
  rintro e w1 ⟨rfl, h1, h2, hb⟩
  have c0 := h1.read (i := 0) rfl
  have c1 := h2.read (i := 0) rfl
  have c2 := h2.read (i := 1) rfl
  have HB := Lib.hid hb
  clear h1 h2 hb
  cases h
  · have HV' := Lib.hid (show false = v by rw [← HV.out]; rfl)
    go_wp2
    go_ret
    exact ⟨ret_bool HV'.out, HB.out⟩
  · have HV' := Lib.hid (show rightB (a, b) = v by rw [← HV.out]; simp)
    go_wp2_with (go_at_call 27; refine (right_any (a, b) _).mono ?_; rintro e w2 ⟨rfl, hb2⟩)
    go_ret
    exact ⟨ret_bool HV'.out, bl_step HB.out hb2⟩
set_option maxHeartbeats 800000 in
theorem tou_any {B p : Nat} {sv : Value} {L : List (Int × Int)} {w : World} (x : Int × Int) (hr : SRep B w p sv L) (v : Bool) (hv : (touF x L && rightB x) = v) :
    Calls Try.prog 26 #[.pointer (some ⟨p, 0, none⟩), spv x] w fun e w' => e = .returned (.bool v) ∧ Below w.heap.size w w' := by
  obtain ⟨a, b⟩ := x
  have HE := Lib.hid (fun w1 => each_tou (w := w1) (hb := w.heap.size + 1) (xb := w.heap.size) (x := (a, b)) hr)
  have HV := Lib.hid hv
  clear hr hv
  show Calls Try.prog 26 #[_, .agg #[.int .i64 a, .int .i64 b]] w _
  generalize touF (a, b) L = h at *
  go_enter Try.func26, Try.ntmps26
  go_wp2_with fail
  refine (HE.out _ ?_ (by omega) ?_ ?_).mono ?_
  · exact bl_alloc (bl_alloc (Below.refl _ _) _) _
  · exact made1 _ _ _ _
  · exact (Row.made _ _ _).more _
  rintro e w1 ⟨rfl, h1, h2, hb⟩
  have c0 := h1.read (i := 0) rfl
  have c1 := h2.read (i := 0) rfl
  have c2 := h2.read (i := 1) rfl
  have HB := Lib.hid hb
  clear h1 h2 hb
  cases h
  · have HV' := Lib.hid (show false = v by rw [← HV.out]; rfl)
    go_wp2
    go_ret
    exact ⟨ret_bool HV'.out, HB.out⟩
  · have HV' := Lib.hid (show rightB (a, b) = v by rw [← HV.out]; simp)
    go_wp2_with (go_at_call 27; refine (right_any (a, b) _).mono ?_; rintro e w2 ⟨rfl, hb2⟩)
    go_ret
    exact ⟨ret_bool HV'.out, bl_step HB.out hb2⟩

/-! of nil -/
set_option maxHeartbeats 400000 in
theorem count_nil (w : World) : Calls Try.prog 16 #[.pointer none] w fun e w' => e = .returned (.int .i64 0) ∧ Below w.heap.size w w' := by
  go_enter Try.func16, Try.ntmps16
  go_wp2_with (go_at_call 47; refine (each_nil _ _).mono ?_; rintro e _ ⟨rfl, rfl⟩)
  go_ret
  exact ⟨rfl, bl_alloc (Below.refl _ _) _⟩
set_option maxHeartbeats 400000 in
theorem has_nil (x : Int × Int) (w : World) : Calls Try.prog 25 #[.pointer none, spv x] w fun e w' => e = .returned (.bool false) ∧ Below w.heap.size w w' := by
  unfold spv
  go_enter Try.func25, Try.ntmps25
  go_wp2_with (go_at_call 47; refine (each_nil _ _).mono ?_; rintro e _ ⟨rfl, rfl⟩)
  go_ret
  exact ⟨rfl, bl_alloc (bl_alloc (Below.refl _ _) _) _⟩
set_option maxHeartbeats 400000 in
theorem tou_nil (x : Int × Int) (w : World) : Calls Try.prog 26 #[.pointer none, spv x] w fun e w' => e = .returned (.bool false) ∧ Below w.heap.size w w' := by
  unfold spv
  go_enter Try.func26, Try.ntmps26
  go_wp2_with (go_at_call 47; refine (each_nil _ _).mono ?_; rintro e _ ⟨rfl, rfl⟩)
  go_ret
  exact ⟨rfl, bl_alloc (bl_alloc (Below.refl _ _) _) _⟩
set_option maxHeartbeats 400000 in
theorem spans_nil (w : World) : Calls Try.prog 21 #[.pointer none] w fun e w' => e = .returned (.slice none 0 0) ∧ w = w' := by
  go_enter Try.func21, Try.ntmps21
  go_wp2
  go_ret
  exact ⟨rfl, rfl⟩
set_option maxHeartbeats 400000 in
theorem gaps_nil (to : Int) (w : World) : Calls Try.prog 23 #[.pointer none, .int .i64 to] w fun e w' => e = .returned (.slice none 0 0) ∧ Below w.heap.size w w' := by
  go_enter Try.func23, Try.ntmps23
  go_wp2
  go_ret
  exact ⟨rfl, bl_alloc (Below.refl _ _) _⟩
set_option maxHeartbeats 400000 in
theorem add_nil (x : Int × Int) (w : World) : Calls Try.prog 14 #[.pointer none, spv x] w fun e w' => e = .returned (.int .i64 6) ∧ Below w.heap.size w w' := by
  obtain ⟨a, b⟩ := x
  show Calls Try.prog 14 #[_, .agg #[.int .i64 a, .int .i64 b]] w _
  go_enter Try.func14, Try.ntmps14
  go_wp2_with (go_at_call 45; refine (fault_nil (a, b) _).mono ?_; rintro e w1 ⟨rfl, hb⟩)
  go_ret
  exact ⟨rfl, bl_step (bl_alloc (Below.refl _ _) _) hb⟩
set_option maxHeartbeats 400000 in
theorem take_nil (x : Int × Int) (w : World) : Calls Try.prog 13 #[.pointer none, spv x] w fun e w' => e = .returned (.int .i64 6) ∧ Below w.heap.size w w' := by
  obtain ⟨a, b⟩ := x
  show Calls Try.prog 13 #[_, .agg #[.int .i64 a, .int .i64 b]] w _
  go_enter Try.func13, Try.ntmps13
  go_wp2_with (go_at_call 45; refine (fault_nil (a, b) _).mono ?_; rintro e w1 ⟨rfl, hb⟩)
  go_ret
  exact ⟨rfl, bl_step (bl_alloc (Below.refl _ _) _) hb⟩
set_option maxHeartbeats 400000 in
theorem add_arg (p : Nat) (x : Int × Int) (w : World) (h : rightB x = false) : Calls Try.prog 14 #[.pointer (some ⟨p, 0, none⟩), spv x] w fun e w' => e = .returned (.int .i64 1) ∧ Below w.heap.size w w' := by
  obtain ⟨a, b⟩ := x
  have H := Lib.hid h
  clear h
  show Calls Try.prog 14 #[_, .agg #[.int .i64 a, .int .i64 b]] w _
  go_enter Try.func14, Try.ntmps14
  go_wp2_with (go_at_call 45; refine (fault_arg p (a, b) _ H.out).mono ?_; rintro e w1 ⟨rfl, hb⟩)
  go_ret
  exact ⟨rfl, bl_step (bl_alloc (Below.refl _ _) _) hb⟩
set_option maxHeartbeats 400000 in
theorem take_arg (p : Nat) (x : Int × Int) (w : World) (h : rightB x = false) : Calls Try.prog 13 #[.pointer (some ⟨p, 0, none⟩), spv x] w fun e w' => e = .returned (.int .i64 1) ∧ Below w.heap.size w w' := by
  obtain ⟨a, b⟩ := x
  have H := Lib.hid h
  clear h
  show Calls Try.prog 13 #[_, .agg #[.int .i64 a, .int .i64 b]] w _
  go_enter Try.func13, Try.ntmps13
  go_wp2_with (go_at_call 45; refine (fault_arg p (a, b) _ H.out).mono ?_; rintro e w1 ⟨rfl, hb⟩)
  go_ret
  exact ⟨rfl, bl_step (bl_alloc (Below.refl _ _) _) hb⟩
end Go.Proofs.Ytmaefeckkodllaa
