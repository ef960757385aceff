/-
  LensBack: the law walked.
-/
import Derived.Test.YtcpjalkonfjgbaaLBackB
import Derived.Test.YtcpjalkonfjgbaaLBack11
import Derived.Test.YtcpjalkonfjgbaaLBack15
namespace Go.Proofs.Ytcpjalkonfjgbaa
open Go.RowKit

theorem back_all (A A2 A3 : Option Addr) (l : List Int) (ds bs : List Nat) (cap cap2 cap3 : Nat) (x : Int) (w : World) (hc3 : bs.length ≤ cap3) (hs : Src w A (ins l)) (hs2 : Src w A2 (bts ds)) (hs3 : Src w A3 (bts bs)) (hd : ∀ b ∈ ds, b < 256) (hb : ∀ b ∈ bs, b < 256) :
    Calls Try.prog 8 #[.slice A l.length cap, .int .i64 x, .slice A2 ds.length cap2, .slice A3 bs.length cap3] w fun e w' => e = .returned (.bool true) ∧ Below w.heap.size w w' := by
  by_cases h : 60 < l.length ∨ 100 < ds.length ∨ 200 < bs.length
  · exact back_guard A A2 A3 l.length ds.length bs.length cap cap2 cap3 x w h
  · cases hx : okW x
    · exact back_bad A A2 A3 bs l.length ds.length bs.length cap cap2 cap3 x 9 w (by omega) (by omega) rfl (by omega) hc3 hs3 hb (by decide) (write_bad _ x 9 w (by decide) (fault_kind _ w hx))
    · rcases okW_nat hx with rfl | rfl
      · by_cases hf : faultF l 11 = 0
        · exact back_good_11 A A2 A3 l ds bs l.length ds.length bs.length cap cap2 cap3 w rfl rfl (by omega) rfl (by omega) hc3 hs hs2 hs3 hd hb hf
        · exact back_bad A A2 A3 bs l.length ds.length bs.length cap cap2 cap3 11 _ w (by omega) (by omega) rfl (by omega) hc3 hs3 hb hf (write_bad _ 11 _ w hf (fault_11 l.length cap w rfl (by unfold maxLen; omega) hs))
      · by_cases hf : faultF l 15 = 0
        · exact back_good_15 A A2 A3 l ds bs l.length ds.length bs.length cap cap2 cap3 w rfl rfl (by omega) rfl (by omega) hc3 hs hs2 hs3 hd hb hf
        · exact back_bad A A2 A3 bs l.length ds.length bs.length cap cap2 cap3 15 _ w (by omega) (by omega) rfl (by omega) hc3 hs3 hb hf (write_bad _ 15 _ w hf (fault_15 l.length cap w rfl (by unfold maxLen; omega) hs))
end Go.Proofs.Ytcpjalkonfjgbaa
