/-
  UmdBack: packets go there and back: what its calls answer.
-/
import Derived.Test.YtdklddpkklodnaaUmdAlive
import Derived.Test.YtdklddpkklodnaaGreat
import Derived.Test.YtdklddpkklodnaaUmdMath
import Derived.Test.YtdklddpkklodnaaUmdSame
namespace Go.Proofs.Ytdklddpkklodnaa
open Go.RowKit


/-- what Write answers, whatever the packet is -/
def WrAns (fi sn wd : Int) (L : List RowB) (w : World) (e : Ending) (w' : World) : Prop :=
  ((umdF fi sn (lens L) wd ≠ 0 ∧ ∃ (a b d : Nat) (v : Value), fi = a ∧ sn = b ∧ wd = d ∧ e = .returned (.tuple #[v, .int .i64 0]) ∧ OwnY w.heap.size w' v (umdBytes a b L d)) ∨
   (umdF fi sn (lens L) wd = 0 ∧ ∃ er : Int, er ≠ 0 ∧ e = .returned (.tuple #[.slice none 0 0, .int .i64 er]))) ∧ Below w.heap.size w w'
theorem uwrite_any {A : Option Addr} {L : List RowB} (fi sn wd : Int) (n cap : Nat) (w : World) (hL : L.length = n) (hcap : n ≤ cap) (hcm : cap ≤ 9223372036854775807) (hs : RSrc w A L) (hm : ∀ m ∈ lens L, m ≤ 9223372036854775807) :
    Calls Try.prog 15 #[.agg #[.int .i64 fi, .int .i64 sn, .slice A n cap], .int .i64 wd] w (WrAns fi sn wd L w) := by
  by_cases h : umdF fi sn (lens L) wd = 0
  · refine (uwrite_bad fi sn wd n cap w hL (by omega) hs hm h).mono ?_
    rintro e w' ⟨rfl, hb⟩
    exact ⟨.inr ⟨h, _, by split <;> decide, rfl⟩, hb⟩
  · obtain ⟨hw, h0, hf, hs2, _, _, _, _⟩ := umdF_pos h
    have h1 := (of_decide_eq_true hs2).1
    obtain ⟨a, rfl⟩ : ∃ a : Nat, fi = a := ⟨fi.toNat, by omega⟩
    obtain ⟨b, rfl⟩ : ∃ a : Nat, sn = a := ⟨sn.toNat, by omega⟩
    obtain ⟨d, rfl⟩ : ∃ a : Nat, wd = a := ⟨wd.toNat, by omega⟩
    refine (uwrite_ok a b d n cap w hL hcap hcm hs hm h).mono ?_
    rintro e w' ⟨v, rfl, ho, hb⟩
    exact ⟨.inl ⟨h, a, b, d, v, rfl, rfl, rfl, rfl, ho⟩, hb⟩
/-- what Read answers, whatever the bytes are -/
def RdAny (bs : List Nat) (wd : Int) (w : World) (e : Ending) (w' : World) : Prop :=
  ((∃ (d fi sn : Nat) (L : List RowB) (A : Option Addr) (c : Nat), wd = d ∧ umdRd bs d = (0, fi, sn, texts L) ∧ e = .returned (.tuple #[.agg #[.int .i64 fi, .int .i64 sn, .slice A L.length c], .int .i64 0]) ∧ OwnR w.heap.size w' (.slice A L.length c) L ∧ L.length ≤ c ∧ c ≤ 9223372036854775807) ∨
   ((∀ d : Nat, wd = d → (umdRd bs d).1 ≠ 0) ∧ ∃ er : Int, er ≠ 0 ∧ e = .returned (.tuple #[.agg #[.int .i64 0, .int .i64 0, .slice none 0 0], .int .i64 er]))) ∧ Below w.heap.size w w'
theorem uread_any {A : Option Addr} {bs : List Nat} (wd : Int) (n cap : Nat) (w : World) (hn : bs.length = n) (hm : n ≤ 8192) (hc : n ≤ cap) (hcm : cap ≤ 9223372036854775807) (hs : Src w A (bts bs)) (hb : ∀ b ∈ bs, b < 256) :
    Calls Try.prog 21 #[.slice A n cap, .int .i64 wd] w (RdAny bs wd w) := by
  have key : ∀ d : Nat, wd = d → ∀ e w', UrdAns w.heap.size w (umdRd bs d) e w' → RdAny bs wd w e w' := by
    rintro d rfl e w' ⟨h | h, hbl⟩
    · obtain ⟨h0, v, L, h1, rfl, ho⟩ := h
      obtain ⟨Av, cv, rfl, g1, g2⟩ := ho.form
      refine ⟨.inl ⟨d, (umdRd bs d).2.1, (umdRd bs d).2.2.1, L, Av, cv, rfl, ?_, rfl, ho, g1, g2⟩, hbl⟩
      rw [← h0, ← h1]
    · obtain ⟨h0, rfl⟩ := h
      exact ⟨.inr ⟨fun d' hd => by
        obtain rfl : d = d' := by omega
        exact h0, _, h0, rfl⟩, hbl⟩
  by_cases h5 : wd = 5
  · subst h5
    exact (uread_5 n cap w hn hm hc hcm hs hb).mono fun e w' h => key 5 rfl e w' h
  · by_cases h10 : wd = 10
    · subst h10
      exact (uread_10 n cap w hn hm hc hcm hs hb).mono fun e w' h => key 10 rfl e w' h
    · refine (uread_kind (bs := bs) n cap wd w h5 h10).mono ?_
      rintro e w' ⟨rfl, hbl⟩
      refine ⟨.inr ⟨fun d hd => ?_, 9, by decide, rfl⟩, hbl⟩
      unfold umdRd
      rw [if_neg (by omega)]
      decide
theorem eqP_self (fi sn : Int) (t : List (List Nat)) : eqP fi sn fi sn t t = true := by simp [eqP]
end Go.Proofs.Ytdklddpkklodnaa
