/-
  UmdWrites: what the walk wants.
-/
import Derived.Test.YtdklddpkklodnaaRefWr
import Derived.Test.YtdklddpkklodnaaUmdSame
import Derived.Test.YtdklddpkklodnaaUmdAlive
import Derived.Test.YtdklddpkklodnaaGreat
namespace Go.Proofs.Ytdklddpkklodnaa
open Go.RowKit


def WAns (fi sn : Int) (L : List RowB) (wd F : Int) (W : World) (e : Ending) (w' : World) : Prop := ∃ (Aw : Option Addr) (nw cw : Nat) (er : Int), e = .returned (.tuple #[.slice Aw nw cw, .int .i64 er]) ∧ Hid (F = 0 → nw = 0 ∧ er = if wd = 5 ∨ wd = 10 then 3 else 9) ∧ Hid (F ≠ 0 → er = 0 ∧ (nw : Int) = F ∧ OwnY W.heap.size w' (.slice Aw nw cw) (umdBytes fi.toNat sn.toNat L wd.toNat)) ∧ Below W.heap.size W w'
theorem uw_nats {fi sn wd : Int} {L : List RowB} (hw : umdF fi sn (lens L) wd ≠ 0) : ∃ a b d : Nat, fi = a ∧ sn = b ∧ wd = d := by
  obtain ⟨h1, h2, _, h3, _, _, _, _⟩ := umdF_pos hw
  have h4 := (of_decide_eq_true h3).1
  exact ⟨fi.toNat, sn.toNat, wd.toNat, by omega, by omega, by omega⟩
theorem uwrite_un {A : Option Addr} {L : List RowB} (fi sn wd : Int) (n cap : Nat) (w : World) (hL : L.length = n) (hcap : n ≤ cap) (hcm : cap ≤ 9223372036854775807) (hs : RSrc w A L) (hm : ∀ m ∈ lens L, m ≤ 9223372036854775807) :
    Calls Try.prog 15 #[.agg #[.int .i64 fi, .int .i64 sn, .slice A n cap], .int .i64 wd] w (WAns fi sn L wd (umdF fi sn (lens L) wd) w) := by
  by_cases hw : umdF fi sn (lens L) wd = 0
  · refine (uwrite_bad fi sn wd n cap w hL (by omega) hs hm hw).mono ?_
    rintro e w' ⟨rfl, hb⟩
    exact ⟨none, 0, 0, _, rfl, Lib.hid fun _ => ⟨rfl, rfl⟩, Lib.hid fun h => absurd hw h, hb⟩
  · obtain ⟨a, b, d, rfl, rfl, rfl⟩ := uw_nats hw
    refine (uwrite_ok a b d n cap w hL hcap hcm hs hm hw).mono ?_
    rintro e w' ⟨v, rfl, ho, hb⟩
    obtain ⟨A1, c1, rfl, _⟩ := ho.form
    exact ⟨A1, _, c1, 0, rfl, Lib.hid fun h => absurd h hw, Lib.hid fun _ => ⟨rfl, umd_len hw, ho⟩, hb⟩
theorem rwrite_un {A : Option Addr} {L : List RowB} (fi sn wd : Int) (n cap : Nat) (w : World) (hL : L.length = n) (hs : RSrc w A L) (hw : umdF fi sn (lens L) wd ≠ 0) :
    Calls Try.prog 20 #[.agg #[.int .i64 fi, .int .i64 sn, .slice A n cap], .int .i64 wd] w fun e w' => ∃ v', e = .returned v' ∧ OwnY w.heap.size w' v' (umdBytes fi.toNat sn.toNat L wd.toNat) ∧ Below w.heap.size w w' := by
  obtain ⟨a, b, d, rfl, rfl, rfl⟩ := uw_nats hw
  obtain ⟨h1, _⟩ := umdF_pos hw
  have hd : d = 5 ∨ d = 10 := by omega
  rcases hd with rfl | rfl
  · exact rwrite_5 a b n cap w hL hs hw
  · exact rwrite_10 a b n cap w hL hs hw
theorem uw_small {W : World} {A : Option Addr} {L : List RowB} (h : RSrc W A L) (fi sn wd : Nat) : ∀ b ∈ umdBytes fi sn L wd, b < 256 := by
  intro b hb
  unfold umdBytes at hb
  rw [List.mem_append, List.mem_append] at hb
  rcases hb with (hb | hb) | hb
  · exact pack_small _ b hb
  · exact tail_small _ _ b hb
  · unfold flat texts at hb
    rw [List.mem_flatten] at hb
    obtain ⟨l, hl, hb⟩ := hb
    rw [List.mem_map] at hl
    obtain ⟨r, hr, rfl⟩ := hl
    obtain ⟨k, hk⟩ := List.getElem?_of_mem hr
    obtain ⟨ad, _, hc⟩ := h (by have := (List.getElem?_eq_some_iff.1 hk).1; omega)
    exact (hc k r hk).2.2.2.2 b hb
theorem keep6w {W V : World} {g h : Nat} {a b c d e f : Value} (h1 : Row W g 24 #[a, b, c]) (h2 : Row W h 24 #[d, e, f]) (hb : Below W.heap.size W V) :
    V.cell? ⟨g, 0, none⟩ = some a ∧ V.cell? ⟨g, 1, none⟩ = some b ∧ V.cell? ⟨g, 2, none⟩ = some c ∧ V.cell? ⟨h, 0, none⟩ = some d ∧ V.cell? ⟨h, 1, none⟩ = some e ∧ V.cell? ⟨h, 2, none⟩ = some f :=
  ⟨(h1.later hb).read rfl, (h1.later hb).read rfl, (h1.later hb).read rfl, (h2.later hb).read rfl, (h2.later hb).read rfl, (h2.later hb).read rfl⟩
end Go.Proofs.Ytdklddpkklodnaa
