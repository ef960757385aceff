/-
  The document's answer for timers: of each timer the time at which it ends; and the law's own comparison of two lists.
-/
import Derived.Test.YtieokmmejdngcaaOnceKit
import Derived.IntWalk
namespace Go.Proofs.Ytieokmmejdngcaa
open Go.RowKit

/-- the time at which a timer ends that has so many ticks left -/
def endT (now v : Int) : Int := if v = 0 then 0 else now + v
def XCells (now : Int) (E : List Int) : Array Value := (.int .i64 now :: E.map (fun x => Value.int .i64 x)).toArray
def XRep (w : World) (x : Nat) (now : Int) (L : List Int) : Prop := L.length = 8 ∧ (∀ v ∈ L, 0 ≤ v ∧ v ≤ 1000) ∧ 0 ≤ now ∧ now ≤ 1000000 ∧ Row w x 28 (XCells now (L.map (endT now)))
section
variable {w v : World} {p : Nat} {L : List Int} {now : Int}
theorem XRep.later (h : XRep w p now L) (hb : Below w.heap.size w v) : XRep v p now L := ⟨h.1, h.2.1, h.2.2.1, h.2.2.2.1, h.2.2.2.2.later hb⟩
theorem XRep.only {S : Nat → Prop} (h : XRep w p now L) (ho : Only S w v) (hp : ¬ S p) : XRep v p now L := ⟨h.1, h.2.1, h.2.2.1, h.2.2.2.1, h.2.2.2.2.only ho hp⟩
theorem XRep.inside (h : XRep w p now L) : p < w.heap.size := h.2.2.2.2.inside
theorem XRep.time (h : XRep w p now L) : w.cell? ⟨p, 0, none⟩ = some (.int .i64 now) := h.2.2.2.2.read rfl
theorem xcells_at {E : List Int} {k : Nat} {x : Int} (hk : E[k]? = some x) : (XCells now E)[1 + k]? = some (.int .i64 x) := by
  unfold XCells
  rw [List.getElem?_toArray, Nat.add_comm, List.getElem?_cons_succ, List.getElem?_map, hk]
  rfl
theorem xcells_set {E : List Int} {k : Nat} {x : Int} : (XCells now E).setIfInBounds (1 + k) (.int .i64 x) = XCells now (E.set k x) := by
  unfold XCells
  rw [List.setIfInBounds_toArray, Nat.add_comm, List.set_cons_succ, List.map_set]
theorem XRep.at (h : XRep w p now L) {k : Nat} {x : Int} (hk : L[k]? = some x) : w.cell? ⟨p, 1 + k, none⟩ = some (.int .i64 (endT now x)) :=
  h.2.2.2.2.read (xcells_at (by rw [List.getElem?_map, hk]; rfl))
theorem XRep.free (h : XRep w p now L) (i : Nat) : w.frozen? ⟨p, i, none⟩ = false := h.2.2.2.2.free i
theorem XRep.has (h : XRep w p now L) {k : Nat} (hk : k < 8) : ∃ x, L[k]? = some x ∧ 0 ≤ x ∧ x ≤ 1000 := by
  have hl : k < L.length := by rw [h.1]; exact hk
  exact ⟨L[k], List.getElem?_eq_getElem hl, h.2.1 _ (List.getElem_mem hl)⟩
theorem XRep.set (h : XRep w p now L) (k : Nat) {x : Int} (h0 : 0 ≤ x) (h1 : x ≤ 1000) : XRep (w.setCell ⟨p, 1 + k, none⟩ (.int .i64 (endT now x))) p now (L.set k x) := by
  refine ⟨by rw [List.length_set]; exact h.1, fun y hy => ?_, h.2.2.1, h.2.2.2.1, ?_⟩
  · rcases List.mem_or_eq_of_mem_set hy with hy | rfl
    · exact h.2.1 y hy
    · exact ⟨h0, h1⟩
  · have := h.2.2.2.2.written (1 + k) (.int .i64 (endT now x))
    rw [xcells_set, ← List.map_set] at this
    exact this
end
theorem endT_pos {now x : Int} (h : 0 < x) : endT now x = now + x := by unfold endT; rw [if_neg (by omega)]
theorem endT_zero (now : Int) : endT now 0 = 0 := rfl

theorem xstart_t {p : Nat} {L : List Int} {now : Int} (i n : Int) (w : World) (h : XRep w p now L) :
    Calls Try.prog 12 #[.pointer (some ⟨p, 0, none⟩), .int .i64 i, .int .i64 n] w fun e w' => e = .returned (.int .i64 (SE i n)) ∧ XRep w' p now (SL L i n) ∧ Only (isP p) w w' := by
  have H := Lib.hid h
  cases hi : inR i
  · have hs : SE i n = 1 := by unfold SE; rw [hi]; rfl
    have hl : SL L i n = L := by unfold SL; rw [hi]; rfl
    rw [hs, hl]
    rcases inR_not hi with hj | hj
    · clear hs hl h hi
      go_enter Try.func12, Try.ntmps12
      go_wp2
      go_ret
      exact ⟨rfl, H.out, Only.refl _ _⟩
    · have hj2 : 7 < i := by omega
      have hj3 : ¬ i < 0 := by omega
      clear hs hl h hi
      go_enter Try.func12, Try.ntmps12
      go_wp2
      go_ret
      exact ⟨rfl, H.out, Only.refl _ _⟩
  · obtain ⟨k, rfl, hk⟩ := inR_nat hi
    have hk0 : (0 : Int) ≤ (k : Int) := by omega
    have hk8 : (k : Int) < 8 := by omega
    have hk7 : ¬ 7 < (k : Int) := by omega
    by_cases hn : 1 ≤ n ∧ n ≤ 1000
    · have hb : (inR (k : Int) && (decide (1 ≤ n) && decide (n ≤ 1000))) = true := by rw [hi]; simp; omega
      have hs : SE k n = 0 := by unfold SE; rw [hb]; rfl
      have hl : SL L k n = L.set k n := by unfold SL; rw [hb]; rfl
      rw [hs, hl]
      obtain ⟨hn1, hn2⟩ := hn
      obtain ⟨x, hx, _, _⟩ := h.has hk
      have hc := h.at hx
      have hf := h.free (1 + k)
      have hn0 := h.time
      have hnow0 := h.2.2.1
      have hnow1 := h.2.2.2.1
      have HS := Lib.hid (XRep.set (w := w.drew) h k (x := n) (by omega) hn2)
      rw [endT_pos (by omega)] at HS
      have HO := Lib.hid (show Only (isP p) w (w.setCell ⟨p, 1 + k, none⟩ (.int .i64 (now + n))).drew from (wrote_at w p (1 + k) _).drew)
      clear hs hl hb hx h hi
      go_enter Try.func12, Try.ntmps12
      go_wp2_with fail
      go_region
      go_wp2
      go_ret
      exact ⟨rfl, HS.out, HO.out⟩
    · have hb : (inR (k : Int) && (decide (1 ≤ n) && decide (n ≤ 1000))) = false := by rw [hi]; simp; omega
      have hs : SE k n = 1 := by unfold SE; rw [hb]; rfl
      have hl : SL L k n = L := by unfold SL; rw [hb]; rfl
      rw [hs, hl]
      clear hs hl h hb hi
      by_cases h1 : n < 1
      · go_enter Try.func12, Try.ntmps12
        go_wp2
        go_ret
        exact ⟨rfl, H.out, Only.refl _ _⟩
      · have h2 : 1000 < n := by omega
        go_enter Try.func12, Try.ntmps12
        go_wp2
        go_ret
        exact ⟨rfl, H.out, Only.refl _ _⟩

theorem xstop_t {p : Nat} {L : List Int} {now : Int} (i : Int) (w : World) (h : XRep w p now L) :
    Calls Try.prog 14 #[.pointer (some ⟨p, 0, none⟩), .int .i64 i] w fun e w' => e = .returned (.int .i64 (FE i)) ∧ XRep w' p now (PL L i) ∧ Only (isP p) w w' := by
  have H := Lib.hid h
  cases hi : inR i
  · have hs : FE i = 1 := by unfold FE; rw [hi]; rfl
    have hl : PL L i = L := by unfold PL; rw [hi]; rfl
    rw [hs, hl]
    rcases inR_not hi with hj | hj
    · clear hs hl h hi
      go_enter Try.func14, Try.ntmps14
      go_wp2
      go_ret
      exact ⟨rfl, H.out, Only.refl _ _⟩
    · have hj2 : 7 < i := by omega
      have hj3 : ¬ i < 0 := by omega
      clear hs hl h hi
      go_enter Try.func14, Try.ntmps14
      go_wp2
      go_ret
      exact ⟨rfl, H.out, Only.refl _ _⟩
  · obtain ⟨k, rfl, hk⟩ := inR_nat hi
    have hk0 : (0 : Int) ≤ (k : Int) := by omega
    have hk8 : (k : Int) < 8 := by omega
    have hk7 : ¬ 7 < (k : Int) := by omega
    have hs : FE k = 0 := by unfold FE; rw [hi]; rfl
    have hl : PL L k = L.set k 0 := by unfold PL; rw [hi]; rfl
    rw [hs, hl]
    obtain ⟨x, hx, _, _⟩ := h.has hk
    have hc := h.at hx
    have hf := h.free (1 + k)
    have HS := Lib.hid (XRep.set h k (x := 0) (by omega) (by omega))
    rw [endT_zero] at HS
    clear hs hl hx h hi
    go_enter Try.func14, Try.ntmps14
    go_wp2
    go_ret
    exact ⟨rfl, HS.out, wrote_at _ _ _ _⟩

def XLeft (L : List Int) (i : Int) (w : World) (e : Ending) (w' : World) : Prop := e = .returned (.int .i64 (LV L i)) ∧ ∃ q, w' = w.drewN q
theorem xleft_t {p : Nat} {L : List Int} {now : Int} (i : Int) (w : World) (h : XRep w p now L) :
    Calls Try.prog 20 #[.pointer (some ⟨p, 0, none⟩), .int .i64 i] w (XLeft L i w) := by
  have H := Lib.hid h
  cases hi : inR i
  · have hs : LV L i = 0 := by unfold LV; rw [hi]; rfl
    have HF := Lib.hid (show XLeft L i w (.returned (.int .i64 0)) w from ⟨by rw [hs], 0, rfl⟩)
    rcases inR_not hi with hj | hj
    · clear hs h hi
      go_enter Try.func20, Try.ntmps20
      go_wp2
      go_ret
      exact HF.out
    · have hj2 : 7 < i := by omega
      have hj3 : ¬ i < 0 := by omega
      clear hs h hi
      go_enter Try.func20, Try.ntmps20
      go_wp2
      go_ret
      exact HF.out
  · obtain ⟨k, rfl, hk⟩ := inR_nat hi
    have hk0 : (0 : Int) ≤ (k : Int) := by omega
    have hk8 : (k : Int) < 8 := by omega
    have hk7 : ¬ 7 < (k : Int) := by omega
    obtain ⟨x, hx, hx0, hx1⟩ := h.has hk
    have hs : LV L k = x := LV_at hk hx
    have hc := h.at hx
    have hn0 := h.time
    have hnow0 := h.2.2.1
    have hnow1 := h.2.2.2.1
    by_cases h0 : x = 0
    · subst h0
      rw [endT_zero] at hc
      have HF := Lib.hid (show XLeft L k w (.returned (.int .i64 0)) w from ⟨by rw [hs], 0, rfl⟩)
      clear hs hx h hi
      go_enter Try.func20, Try.ntmps20
      go_wp2
      go_ret
      exact HF.out
    · rw [endT_pos (by omega)] at hc
      have HF := Lib.hid (fun q => (show XLeft L k w (.returned (.int .i64 (now + x - now))) (w.drewN q) from ⟨by rw [hs, show now + x - now = x by omega], q, rfl⟩))
      have hne : ¬ now + x = 0 := by omega
      have hne2 : (now + x == 0) = false := by simp; omega
      clear hs hx h hi
      go_enter Try.func20, Try.ntmps20
      go_wp2_with fail
      go_quiet (fail)
      go_wp2
      go_ret
      exact HF.out _
end Go.Proofs.Ytieokmmejdngcaa
