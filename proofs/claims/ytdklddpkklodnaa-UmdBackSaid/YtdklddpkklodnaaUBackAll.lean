/-
  UmdBack: the law walked, for every argument.
-/
import Derived.Test.YtdklddpkklodnaaUBackO
namespace Go.Proofs.Ytdklddpkklodnaa
open Go.RowKit


set_option maxRecDepth 100000 in
set_option maxHeartbeats 1600000 in
theorem uback_long {A B : Option Addr} {L : List RowB} (fi sn wd : Int) (n cap nb cb : Nat) (w : World) (hL : L.length = n) (hn : n ≤ 9223372036854775807) (hs : RSrc w A L) (hm : ∀ m ∈ lens L, m ≤ 9223372036854775807) (h41 : 4100 < nb) :
    Calls Try.prog 5 #[.agg #[.int .i64 fi, .int .i64 sn, .slice A n cap], .slice B nb cb, .int .i64 wd] w fun e w' => e = .returned (.bool true) ∧ Below w.heap.size w w' := by
  have HGR := Lib.hid (great_any n cap (w.alloc (.cells #[.int .i64 fi, .int .i64 sn, .slice A n cap] 24)) hL hn (hs.later (bl_alloc (Below.refl _ _) _)) hm)
  have hb41 : (4100 : Int) < nb := by omega
  clear hs hm hL
  go_enter Try.func5, Try.ntmps5
  go_wp2_with (go_at_call 11; refine HGR.out.mono ?_; rintro e w1 ⟨⟨b, rfl, hbb⟩, rfl⟩; cases b)
  all_goals
    clear hbb
    go_wp2_with (go_at_call 12; refine (ualive_any _).mono ?_; rintro e w2 ⟨rfl, hb2⟩)
    go_ret
    exact ⟨rfl, bl_step (bl_alloc (Below.refl _ _) _) hb2⟩
theorem uback_all {A B : Option Addr} (fi sn wd : Int) (L : List RowB) (cap : Nat) (bs : List Nat) (cb : Nat) (w : World) (hcap : L.length ≤ cap) (hcm : cap ≤ 9223372036854775807) (hs : RSrc w A L) (hm : ∀ m ∈ lens L, m ≤ 9223372036854775807)
    (hcb : bs.length ≤ cb) (hcbm : cb ≤ 9223372036854775807) (hsb : Src w B (bts bs)) (hb : ∀ b ∈ bs, b < 256) :
    Calls Try.prog 5 #[.agg #[.int .i64 fi, .int .i64 sn, .slice A L.length cap], .slice B bs.length cb, .int .i64 wd] w fun e w' => e = .returned (.bool true) ∧ Below w.heap.size w w' := by
  rcases Nat.lt_or_ge 4100 bs.length with h | h
  · exact uback_long fi sn wd L.length cap bs.length cb w rfl (by omega) hs hm h
  · by_cases hw : umdF fi sn (lens L) wd = 0
    · exact uback_bad fi sn wd L.length cap bs.length cb w rfl hcap hcm hs hm ⟨rfl, h, hcb, hcbm, hsb, hb⟩ hw
    · obtain ⟨h1, h2, _, h3, _, _, _, _⟩ := umdF_pos hw
      have h4 := (of_decide_eq_true h3).1
      obtain ⟨a, rfl⟩ : ∃ a : Nat, fi = a := ⟨fi.toNat, by omega⟩
      obtain ⟨b, rfl⟩ : ∃ a : Nat, sn = a := ⟨sn.toNat, by omega⟩
      obtain ⟨d, rfl⟩ : ∃ a : Nat, wd = a := ⟨wd.toNat, by omega⟩
      exact uback_ok a b d L.length cap bs.length cb w rfl hcap hcm hs hm ⟨rfl, h, hcb, hcbm, hsb, hb⟩ hw
end Go.Proofs.Ytdklddpkklodnaa
