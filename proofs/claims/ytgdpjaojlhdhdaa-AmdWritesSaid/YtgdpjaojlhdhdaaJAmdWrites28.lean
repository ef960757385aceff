/-
  AmdWrites: what the walk wants. A region that draws its order, walked by hand.
-/
import Derived.Test.YtgdpjaojlhdhdaaJAmdWrites23
import Derived.Test.YtgdpjaojlhdhdaaJAmdWrites24
import Derived.Test.YtgdpjaojlhdhdaaJAmdWrites15
import Derived.Test.YtgdpjaojlhdhdaaJAmdWrites27
import Derived.Test.YtgdpjaojlhdhdaaJAmdWrites01
import Derived.Deep.RegionHeld3
namespace Go.Proofs.Ytgdpjaojlhdhdaa
open Go.RowKit

theorem rawrite_ok {A : Option Addr} {L : List RowB} (poll part last : Bool) (fi sn off wd n cap : Nat) (w : World) (hL : L.length = n) (hs : RSrc w A L) (h : amdF part last fi sn off (lens L) wd ≠ 0) :
    Calls Try.prog 48 #[.agg #[.bool poll, .int .i64 fi, .int .i64 sn, .bool part, .bool last, .int .i64 off, .slice A n cap], .int .i64 wd] w fun e w' => ∃ v', e = .returned v' ∧ OwnY w.heap.size w' v' (amdBytes poll part last fi sn off L wd) ∧ Below w.heap.size w w' := by
  obtain ⟨hw, _, hfi, hsn, hpl, hl1, hl2, hok, hsum⟩ := amdF_pos h
  rw [length_lens, hL] at hl1 hl2
  have hwd : wd = 10 ∨ wd = 16 := by omega
  have hsn2 := okn_pow hwd hsn
  have hof := placed_off hwd hpl
  have hsu : (lens L).sum ≤ 9000 := by have := amdF_big part last fi sn off (lens L) wd; have h9 := sizeF_nonneg (((lens L).length : Int) - 1) (lwA wd); have h8 := headA_nonneg part wd; omega
  rcases hwd with rfl | rfl <;> cases part
  · exact rwr_10f poll last fi sn off n cap w hL hs hl1 hl2 hok hsu (by omega) hsn2 hof
  · exact rwr_10t poll last fi sn off n cap w hL hs hl1 hl2 hok hsu (by omega) hsn2 hof
  · exact rwr_16f poll last fi sn off n cap w hL hs hl1 hl2 hok hsu (by omega) hsn2 hof
  · exact rwr_16t poll last fi sn off n cap w hL hs hl1 hl2 hok hsu (by omega) hsn2 hof
def WAnsA (poll part last : Bool) (fi sn off : Int) (L : List RowB) (wd F : Int) (W : World) (e : Ending) (w' : World) : Prop := ∃ (Aw : Option Addr) (nw cw : Nat) (er : Int), e = .returned (.tuple #[.slice Aw nw cw, .int .i64 er]) ∧ Hid (F = 0 → nw = 0 ∧ er = if wd = 10 ∨ wd = 16 then 3 else 9) ∧ Hid (F ≠ 0 → er = 0 ∧ (nw : Int) = F ∧ OwnY W.heap.size w' (.slice Aw nw cw) (amdBytes poll part last fi.toNat sn.toNat off.toNat L wd.toNat)) ∧ Below W.heap.size W w'
theorem awrite_un {A : Option Addr} {L : List RowB} (poll part last : Bool) (fi sn off wd : Int) (n cap : Nat) (w : World) (hL : L.length = n) (hcap : n ≤ cap) (hcm : cap ≤ 9223372036854775807) (hs : RSrc w A L) (hm : ∀ m ∈ lens L, m ≤ 9223372036854775807) :
    Calls Try.prog 40 #[.agg #[.bool poll, .int .i64 fi, .int .i64 sn, .bool part, .bool last, .int .i64 off, .slice A n cap], .int .i64 wd] w (WAnsA poll part last fi sn off L wd (amdF part last fi sn off (lens L) wd) w) := by
  by_cases hw : amdF part last fi sn off (lens L) wd = 0
  · refine (awrite_bad poll part last fi sn off wd n cap w hL (by omega) hs hm hw).mono ?_
    rintro e w' ⟨rfl, hb⟩
    exact ⟨none, 0, 0, _, rfl, Lib.hid fun _ => ⟨rfl, rfl⟩, Lib.hid fun h => absurd hw h, hb⟩
  · obtain ⟨a, b, c, d, rfl, rfl, rfl, rfl⟩ := nat_of hw
    refine (awrite_ok poll part last a b c d n cap w hL hcap hcm hs hm hw).mono ?_
    rintro e w' ⟨v, rfl, ho, hb⟩
    obtain ⟨A1, c1, rfl, _⟩ := ho.form
    exact ⟨A1, _, c1, 0, rfl, Lib.hid fun h => absurd h hw, Lib.hid fun _ => ⟨rfl, amd_len hw, ho⟩, hb⟩
theorem rawrite_un {A : Option Addr} {L : List RowB} (poll part last : Bool) (fi sn off wd : Int) (n cap : Nat) (w : World) (hL : L.length = n) (hs : RSrc w A L) (hw : amdF part last fi sn off (lens L) wd ≠ 0) :
    Calls Try.prog 48 #[.agg #[.bool poll, .int .i64 fi, .int .i64 sn, .bool part, .bool last, .int .i64 off, .slice A n cap], .int .i64 wd] w fun e w' => ∃ v', e = .returned v' ∧ OwnY w.heap.size w' v' (amdBytes poll part last fi.toNat sn.toNat off.toNat L wd.toNat) ∧ Below w.heap.size w w' := by
  obtain ⟨a, b, c, d, rfl, rfl, rfl, rfl⟩ := nat_of hw
  exact rawrite_ok poll part last a b c d n cap w hL hs hw
theorem flat_small {W : World} {A : Option Addr} {L : List RowB} (h : RSrc W A L) : ∀ b ∈ flat L, b < 256 := by
  intro b hb
  unfold flat texts at hb
  rw [List.mem_flatten] at hb
  obtain ⟨l, hl, hb⟩ := hb
  rw [List.mem_map] at hl
  obtain ⟨r, hr, rfl⟩ := hl
  obtain ⟨k, hk⟩ := List.getElem?_of_mem hr
  obtain ⟨ad, _, hc⟩ := h (by have := (List.getElem?_eq_some_iff.1 hk).1; omega)
  exact (hc k r hk).2.2.2.2 b hb
end Go.Proofs.Ytgdpjaojlhdhdaa
namespace Go.Proofs.Ytgdpjaojlhdhdaa
open Go.RowKit

/-- a stronger condition may be held from here on -/
theorem wpAnyH_more {P : Program} {md : Region.Mode} {ops : Array Oper} {Q : Exit → Act → World → Prop} {S S' : World → Prop} : ∀ {fuel : Nat} {listed : Array Bool} {a : Act} {w : World}, wpAnyH P md ops Q S' fuel listed a w → (∀ w, S' w → S w) → wpAnyH P md ops Q S fuel listed a w
  | 0, _, _, _, h, _ => h
  | _ + 1, _, _, _, h, hs => ⟨h.1, fun i hi => wpOp_mono (fun _ _ h' => ⟨hs _ h'.1, wpAnyH_more h'.2 hs⟩) (h.2 i hi)⟩

theorem take_at {P : Program} {md : Region.Mode} {ops : Array Oper} {Q : Exit → Act → World → Prop} {S : World → Prop} (i t : Nat) {oi : Oper} {v : Value} {fuel : Nat} {listed : Array Bool} {a : Act} {w : World} (hi : ops[i]? = some oi) (hd : oi.dst = some t)
    (hs : Region.noSelect ops = true) (hf : Region.free md ops listed i = true) (hr : (Region.ready md ops listed).contains i = true)
    (hQ : ∀ c a w, Q (.panic c) (a.put oi.dst v) w → Q (.panic c) a w) (hy : YieldsIf P ops S oi v a) (hS : S w)
    (h : wpAnyH P md ops Q S fuel (listed.setIfInBounds i true) (a.put (some t) v) w) : wpAnyH P md ops Q S (fuel + 1) listed a w :=
  wpAnyH_take hi hs hf hr hQ hy hS (by rw [hd]; exact h)

/-- what of a frame is forgotten -/
theorem wp_of_frame {P : Program} {c : Code} {Q : Exit → Act → World → Prop} {a : Act} {w : World} (xs : List (Option Value)) (h : Fr xs a) (k : ∀ a', Fr xs a' → c.wp P Q a' w) : c.wp P Q a w := k a h
end Go.Proofs.Ytgdpjaojlhdhdaa
