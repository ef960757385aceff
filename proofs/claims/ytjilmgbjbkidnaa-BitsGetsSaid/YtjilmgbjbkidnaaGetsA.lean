/-
  How a reader and the document's answer end alike: the rest of the bytes, or the refusal; and how an argument of integers reads.
-/
import Derived.Test.YtjilmgbjbkidnaaRefRest
import Derived.Test.YtjilmgbjbkidnaaArgs
import Derived.Test.YtjilmgbjbkidnaaParts
import Derived.Test.YtjilmgbjbkidnaaBitsBack
namespace Go.Proofs.Ytjilmgbjbkidnaa
open Go.ChangeShapes Go.WideShapes Go.ChangeAt Go.RowKit

theorem Try.cells3i : Try.prog.cellsOf 3 = 1 := by kernel_rfl

/-- where an argument of integers lies -/
def ISrc (w : World) (A : Option Addr) (l : List Int) : Prop :=
  0 < l.length → ∃ b off, A = some ⟨b, off, none⟩ ∧ ∀ j x, l[j]? = some x → w.cell? ⟨b, off + j, none⟩ = some (.int .i64 x)

theorem plain_add (b off j : Nat) : (⟨b, off, none⟩ : Addr).add j = ⟨b, off + j, none⟩ := by
  unfold Addr.add
  split
  · rename_i h
    rw [h]
    rfl
  · rfl

theorem ints_arg {H : Type} {enc : TypeId × Value → H} {W : World} {base : Nat} {v : Value} {d : DataW H} {p : List MemPlace} (hok : Value.okWide Try.prog W .any base 39 v)
    (h : DataW.Trod enc Try.prog W 0 (fun _ => true) true 39 v d p) : ∃ (A : Option Addr) (cap : Nat) (l : List Int), v = .slice A l.length cap ∧ l.length ≤ cap ∧ cap ≤ maxLen ∧ ISrc W A l := by
  obtain ⟨a0, len, cap, rfl⟩ := okWide_slice Try.underlying39 hok
  obtain ⟨fuel, hf⟩ := h
  rcases open_ints Try.underlying39 Try.underlying3 Try.cells3i hf with ⟨hcs, _⟩ | ⟨a, len', cap', zs, hcs, _, hl, hm, hz, _, hcell, hwz⟩
  · simp only [Value.cells] at hcs
    have e : Value.slice a0 len cap = .slice none 0 0 := by simpa using hcs
    rw [e]
    exact ⟨none, 0, [], rfl, Nat.le_refl _, by simp [maxLen], fun h0 => absurd h0 (by simp)⟩
  · have e : Value.slice a0 len cap = .slice (some a) len' cap' := by simpa [Value.cells] using hcs
    rw [e]
    have hz' : zs.length = cap' := by simpa using hz
    have hlen : (zs.take len').length = len' := by rw [List.length_take]; omega
    refine ⟨some a, cap', zs.take len', by rw [hlen], by omega, hm, fun h0 => ?_⟩
    rw [hlen] at h0
    obtain ⟨b, off, spot⟩ := a
    have hspot : spot = none := by
      have hc := hcell 0 (by omega)
      simpa [Addr.add] using World.cell?_spot hc
    subst hspot
    refine ⟨b, off, rfl, fun j x hx => ?_⟩
    have hj : j < len' := by
      have h1 := (List.getElem?_eq_some_iff.1 hx).1
      rw [hlen] at h1
      exact h1
    have h2 := hcell j (by omega)
    rw [plain_add] at h2
    rw [h2]
    rw [List.getElem?_take, if_pos hj] at hx
    rw [List.getD_eq_getElem?_getD, hx]
    rfl

theorem OwnB.form' {B : Nat} {w : World} {x : Value} {bl : List Bool} (h : OwnB B w x bl) : ∃ A c, x = .slice A bl.length c ∧ bl.length ≤ c := by
  rcases h.1.2 with ⟨rfl, h0⟩ | ⟨g, c, cur, rfl, h1⟩
  · exact ⟨none, 0, by rw [h0], by omega⟩
  · exact ⟨_, c, rfl, by
      have := h.1.1
      rw [length_bls] at this
      omega⟩

theorem own_later' {B : Nat} {e : TypeId} {size n : Nat} {w v : World} {x : Value} {xs : List Value} (h : w.ownsRow B e size x n xs) (hb : Below w.heap.size w v) : v.ownsRow B e size x n xs :=
  own_only h (S := fun _ => False) (.of_below hb) (fun _ _ h => h)
theorem conv_empty (w : World) : (convert 35 9 (.slice none 0 0)).run Try.prog w = .ok (.string (strOf [])) w :=
  run_convert_bytes_nil w 35 5 Try.underlying35 Try.underlying5 0 0 9 Try.underlying9

/-- a reader's rest and the document's: one text, one answer, one place -/
theorem both_rest {bs : List Nat} (p g a : Nat) (ha : a ≤ 8 * bs.length) (hb : bs.length ≤ 3000) (hv : ∀ b ∈ bs, b < 256) :
    ∃ (S : ByteArray) (er : Int) (nx lf : Nat), lf + nx = 8 * bs.length ∧
    (∀ W, RRep W p g bs a → Calls Try.prog 25 #[.pointer (some ⟨p, 0, none⟩)] W fun e w' => ∃ x, e = .returned (.tuple #[x, .int .i64 er]) ∧ Only (fun k => k = p) W w' ∧
      (∀ W', Below w'.heap.size w' W' → (convert 35 9 x).run Try.prog W' = .ok (.string S) W') ∧
      (∀ W', Below w'.heap.size w' W' → Calls Try.prog 24 #[.pointer (some ⟨p, 0, none⟩)] W' fun e w2 => e = .returned (.int .i64 (lf : Int)) ∧ Below W'.heap.size W' w2)) ∧
    (∀ W A c, SrcB W A (bls (bitsOf bs)) → 8 * bs.length ≤ c → Calls Try.prog 26 #[.slice A (8 * bs.length) c, .int .i64 a] W fun e w' => ∃ x, e = .returned (.tuple #[x, .int .i64 nx, .int .i64 er]) ∧ Below W.heap.size W w' ∧
      ∀ W', Below w'.heap.size w' W' → (convert 35 9 x).run Try.prog W' = .ok (.string S) W') := by
  have hup : 8 * up a - a + a = 8 * up a := by unfold up; omega
  rcases first_one (bitAt bs) (8 * up a - a) a with h | ⟨j, h1, h2, h3, h4⟩
  · have h' : ∀ k, a ≤ k → k < 8 * up a → bitAt bs k = false := fun k hk1 hk2 => h k hk1 (by omega)
    have hvd : ∀ b ∈ bs.drop (up a), b < 256 := fun b hb => hv b (List.mem_of_mem_drop hb)
    refine ⟨strOf (bs.drop (up a)), 0, 8 * bs.length, 0, ?_, fun W hr => ?_, fun W A c hs hc => ?_⟩
    · omega
    · refine (rest_ok W hr h').mono ?_
      rintro e w' ⟨g', rfl, hg', hrow, hrr, ho⟩
      refine ⟨_, rfl, ho, fun W' hb' => ?_, fun W' hb' => ?_⟩
      · have := conv_str (c := bs.length - up a) (hrow.later hb') hvd
        rw [List.length_drop] at this
        exact this
      · have := left_any (hrr.later hb')
        rw [Nat.sub_self] at this
        exact this
    · refine (refrest_ok A (8 * bs.length) c a W hs rfl hc hb hv ha h').mono ?_
      rintro e w' ⟨x', rfl, ho, hbl⟩
      exact ⟨x', rfl, hbl, fun W' hb' => conv_own (own_later' ho hb') hvd⟩
  · refine ⟨strOf [], 3, a, 8 * bs.length - a, ?_, fun W hr => ?_, fun W A c hs hc => ?_⟩
    · omega
    · refine (rest_form W hr j h1 (by omega) h3 h4).mono ?_
      rintro e w' ⟨rfl, rfl⟩
      exact ⟨_, rfl, Only.refl _ _, fun W' _ => conv_empty W', fun W' hb' => left_any (hr.later hb')⟩
    · refine (refrest_form A (8 * bs.length) c a W hs rfl hb ha j h1 (by omega) h3 h4).mono ?_
      rintro e w' ⟨rfl, rfl⟩
      exact ⟨_, rfl, Below.refl _ _, fun W' _ => conv_empty W'⟩

/-- a reader's next number and the document's: one value, one answer, one place -/
theorem both_get {bs : List Nat} (p g a : Nat) (N : Int) (ha : a ≤ 8 * bs.length) (hb : bs.length ≤ 3000) :
    ∃ (V : Nat) (er : Int) (nx lf : Nat), nx ≤ 8 * bs.length ∧ lf + nx = 8 * bs.length ∧
    (∀ W, RRep W p g bs a → Calls Try.prog 22 #[.pointer (some ⟨p, 0, none⟩), .int .i64 N] W fun e w' => e = .returned (.tuple #[.int .u64 (V : Int), .int .i64 er]) ∧ Only (fun k => k = p) W w' ∧ RRep w' p g bs nx) ∧
    (∀ W, RRep W p g bs nx → Calls Try.prog 24 #[.pointer (some ⟨p, 0, none⟩)] W fun e w2 => e = .returned (.int .i64 (lf : Int)) ∧ Below W.heap.size W w2) ∧
    (∀ W A c, SrcB W A (bls (bitsOf bs)) → Calls Try.prog 23 #[.slice A (8 * bs.length) c, .int .i64 a, .int .i64 N] W fun e w' => e = .returned (.tuple #[.int .u64 (V : Int), .int .i64 nx, .int .i64 er]) ∧ W = w') := by
  by_cases hN : 0 ≤ N ∧ N ≤ 64
  · obtain ⟨n, rfl⟩ : ∃ n : Nat, N = n := ⟨N.toNat, by omega⟩
    have hn : n ≤ 64 := by omega
    rcases Nat.lt_or_ge (8 * bs.length - a) n with h | h
    · refine ⟨0, 8, a, 8 * bs.length - a, ha, by omega, fun W hr => ?_, fun W hr => left_any hr, fun W A c hs => ?_⟩
      · refine (get_short n W hr hn h).mono ?_
        rintro e w' ⟨rfl, hb'⟩
        exact ⟨rfl, .of_below hb', hr.later hb'⟩
      · exact refget_short A (8 * bs.length) c a n W hn (by omega) ha h
    · refine ⟨val (seg bs a n), 0, a + n, 8 * bs.length - (a + n), by omega, by omega, fun W hr => ?_, fun W hr => left_any hr, fun W A c hs => ?_⟩
      · refine (get_any n W hr hn (by omega)).mono ?_
        rintro e w' ⟨rfl, hr', ho⟩
        exact ⟨rfl, ho, hr'⟩
      · exact refget_ok A (8 * bs.length) c a n W hs rfl hb hn (by omega)
  · refine ⟨0, 1, a, 8 * bs.length - a, ha, by omega, fun W hr => ?_, fun W hr => left_any hr, fun W A c hs => ?_⟩
    · refine (get_arg p N W (mayB_not (by omega))).mono ?_
      rintro e w' ⟨rfl, rfl⟩
      exact ⟨rfl, Only.refl _ _, hr⟩
    · exact refget_arg _ a N W (by omega)
end Go.Proofs.Ytjilmgbjbkidnaa
