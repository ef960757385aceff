/-
  What Read of umd answers: of the code and of the document.
-/
import Derived.Test.YtdklddpkklodnaaRefRead5
import Derived.Test.YtdklddpkklodnaaRefRead10
import Derived.Test.YtdklddpkklodnaaUBackK
namespace Go.Proofs.Ytdklddpkklodnaa
open Go.RowKit


theorem own_nil (B : Nat) (w : World) : OwnR B w (.slice none 0 0) [] := ⟨World.ownsRow_nil _ _ _ _, fun _ h => by cases h⟩
/-- the code's and the document's Read: one error, one packet -/
def BothRd (bs : List Nat) (n : Nat) (wd : Int) : Prop :=
  ∃ (er fi sn : Int) (T : List (List Nat)),
    (∀ W A cap, n ≤ cap → cap ≤ 9223372036854775807 → Src W A (bts bs) → Calls Try.prog 21 #[.slice A n cap, .int .i64 wd] W fun e w' => ∃ (L : List RowB) (Av : Option Addr) (c : Nat), T = texts L ∧ e = .returned (.tuple #[.agg #[.int .i64 fi, .int .i64 sn, .slice Av L.length c], .int .i64 er]) ∧ OwnR W.heap.size w' (.slice Av L.length c) L ∧ L.length ≤ c ∧ c ≤ 9223372036854775807 ∧ Below W.heap.size W w') ∧
    (∀ W A cap, n ≤ cap → cap ≤ 9223372036854775807 → Src W A (bts bs) → Calls Try.prog 22 #[.slice A n cap, .int .i64 wd] W fun e w' => ∃ (L : List RowB) (Av : Option Addr) (c : Nat), T = texts L ∧ e = .returned (.tuple #[.agg #[.int .i64 fi, .int .i64 sn, .slice Av L.length c], .int .i64 er]) ∧ RSrc w' Av L ∧ L.length ≤ c ∧ c ≤ 9223372036854775807 ∧ Below W.heap.size W w')
theorem both_uread {bs : List Nat} (wd : Int) (n : Nat) (hn : bs.length = n) (hm : n ≤ 8000) (hb : ∀ b ∈ bs, b < 256) : BothRd bs n wd := by
  have key : ∀ d : Nat, (∀ W A cap, n ≤ cap → cap ≤ 9223372036854775807 → Src W A (bts bs) → Calls Try.prog 21 #[.slice A n cap, .int .i64 d] W (UrdAns W.heap.size W (umdRd bs d))) → (∀ W A cap, n ≤ cap → cap ≤ 9223372036854775807 → Src W A (bts bs) → Calls Try.prog 22 #[.slice A n cap, .int .i64 d] W (UrrAns W (umdRd bs d))) → wd = d → BothRd bs n wd := by
    intro d h1 h2 e
    subst e
    by_cases h0 : (umdRd bs d).1 = 0
    · refine ⟨0, (umdRd bs d).2.1, (umdRd bs d).2.2.1, (umdRd bs d).2.2.2, fun W A cap g1 g2 g3 => (h1 W A cap g1 g2 g3).mono ?_, fun W A cap g1 g2 g3 => (h2 W A cap g1 g2 g3).mono ?_⟩
      · rintro e w' ⟨h | h, hbl⟩
        · obtain ⟨_, v, L, h3, rfl, ho⟩ := h
          obtain ⟨Av, cv, rfl, k1, k2⟩ := ho.form
          exact ⟨L, Av, cv, h3, rfl, ho, k1, k2, hbl⟩
        · exact absurd h0 h.1
      · rintro e w' ⟨h | h, hbl⟩
        · obtain ⟨_, A', c, L, h3, rfl, ho, k1, k2⟩ := h
          exact ⟨L, A', c, h3, rfl, ho, k1, k2, hbl⟩
        · exact absurd h0 h.1
    · refine ⟨(umdRd bs d).1, 0, 0, [], fun W A cap g1 g2 g3 => (h1 W A cap g1 g2 g3).mono ?_, fun W A cap g1 g2 g3 => (h2 W A cap g1 g2 g3).mono ?_⟩
      · rintro e w' ⟨h | h, hbl⟩
        · exact absurd h.1 h0
        · obtain ⟨_, rfl⟩ := h
          exact ⟨[], none, 0, rfl, rfl, own_nil _ _, Nat.le_refl _, by omega, hbl⟩
      · rintro e w' ⟨h | h, hbl⟩
        · exact absurd h.1 h0
        · obtain ⟨_, rfl⟩ := h
          exact ⟨[], none, 0, rfl, rfl, fun h => absurd h (by simp), Nat.le_refl _, by omega, hbl⟩
  by_cases h5 : wd = 5
  · exact key 5 (fun W A cap g1 g2 g3 => uread_5 n cap W hn (by omega) g1 g2 g3 hb) (fun W A cap g1 g2 g3 => rread_5 n cap W hn hm g1 g2 g3 hb) h5
  · by_cases h10 : wd = 10
    · exact key 10 (fun W A cap g1 g2 g3 => uread_10 n cap W hn (by omega) g1 g2 g3 hb) (fun W A cap g1 g2 g3 => rread_10 n cap W hn hm g1 g2 g3 hb) h10
    · refine ⟨9, 0, 0, [], fun W A cap g1 g2 g3 => (uread_kind (bs := bs) n cap wd W h5 h10).mono ?_, fun W A cap g1 g2 g3 => (rread_kind n cap wd W h5 h10).mono ?_⟩
      · rintro e w' ⟨rfl, hbl⟩
        exact ⟨[], none, 0, rfl, rfl, own_nil _ _, Nat.le_refl _, by omega, hbl⟩
      · rintro e w' ⟨rfl, hbl⟩
        exact ⟨[], none, 0, rfl, rfl, fun h => absurd h (by simp), Nat.le_refl _, by omega, hbl⟩
end Go.Proofs.Ytdklddpkklodnaa
