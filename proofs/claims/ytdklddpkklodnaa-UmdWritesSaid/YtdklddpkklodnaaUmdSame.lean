/-
  Whether two packets of umd are equal, as the code and the document say.
-/
import Derived.Test.YtdklddpkklodnaaFldSize
import Derived.Test.YtdklddpkklodnaaUmdRead
import Derived.StillTailTactics
namespace Go.Proofs.Ytdklddpkklodnaa
open Go.RowKit


theorem Try.info28s : (Try.prog.info? 28).map (·.size) = some 3 := by kernel_rfl
set_option maxRecDepth 100000 in
set_option maxHeartbeats 800000 in
theorem as_any (x y : Value) (A : Option Addr) (n cap : Nat) (fi sn : Int) (w : World) (hx : x = .int .i64 fi) (hy : y = .int .i64 sn) :
    Calls Try.prog 14 #[.agg #[x, y, .slice A n cap]] w fun e w' => e = .returned (.agg #[.int .i64 fi, .int .i64 sn, .slice A n cap]) ∧ Below w.heap.size w w' := by
  subst hx hy
  go_enter Try.func14, Try.ntmps14
  go_wp2
  refine bodyPost_ret (v := .agg #[.int .i64 fi, .int .i64 sn, .slice A n cap]) (by simp [results, Try.results14, go_sem]) rfl ⟨rfl, ?_⟩
  first
    | exact bl_alloc (bl_alloc (Below.refl _ _) _) _
    | exact ((((bl_alloc (bl_alloc (Below.refl _ _) _) _).setCell (by simp) _).setCell (by simp) _).setCell (by simp) _)

def SameAns (b : Bool) (w : World) (e : Ending) (w' : World) : Prop := e = .returned (.bool b) ∧ Below w.heap.size w w'
set_option maxRecDepth 100000 in
set_option maxHeartbeats 1600000 in
theorem samef_any {A B : Option Addr} {L M : List RowB} (n m cap capb : Nat) (w : World) (hL : L.length = n) (hM : M.length = m) (hn : n ≤ 9223372036854775807) (hs : RSrc w A L) (hs' : RSrc w B M) :
    Calls Try.prog 49 #[.slice A n cap, .slice B m capb] w (SameAns (decide (texts L = texts M)) w) := by
  by_cases h : n = m
  · subst h
    have HS := Lib.hid hs
    have HS2 := Lib.hid hs'
    have HL := Lib.hid hL
    have HM := Lib.hid hM
    have hnn : ((n : Int) != (n : Int)) = false := by simp
    clear hs hs' hL hM
    go_enter Try.func49, Try.ntmps49
    go_wp2
    go_loopw [5] (fun i wr => ∃ k : Nat, k ≤ n ∧ i = .int .i64 k ∧ Hid (sameTo (texts L) (texts M) k) ∧ Hid (Below w.heap.size w wr)) (fun i _ => n - (intOf i).toNat)
    case atStart => exact ⟨0, by omega, rfl, Lib.hid (fun j hj => by omega), Lib.hid (Below.refl _ _)⟩
    case round =>
      obtain ⟨k, hk, rfl, HK, HB⟩ := hrel
      by_cases hlt : k < n
      · obtain ⟨ad, rfl, hc⟩ := HS.out (by rw [HL.out]; omega)
        obtain ⟨bd, rfl, hc'⟩ := HS2.out (by rw [HM.out]; omega)
        obtain ⟨r, hr⟩ : ∃ r, L[k]? = some r := ⟨_, List.getElem?_eq_getElem (by rw [HL.out]; exact hlt)⟩
        obtain ⟨r', hr'⟩ : ∃ r, M[k]? = some r := ⟨_, List.getElem?_eq_getElem (by rw [HM.out]; exact hlt)⟩
        have hbd : Below w.heap.size w wr.drew := bl_drew HB.out
        have c1 : wr.drew.cell? (ad.add k) = some (.slice r.A r.bs.length r.cap) := cell_below hbd (hc k r hr).1
        have c2 : wr.drew.cell? (bd.add k) = some (.slice r'.A r'.bs.length r'.cap) := cell_below hbd (hc' k r' hr').1
        have ho := (hc k r hr).2.later hbd
        have ho' := (hc' k r' hr').2.later hbd
        have d1 := conv_src r.bs.length r.cap rfl ho.1 ho.2.2.2
        have d2 := conv_src r'.bs.length r'.cap rfl ho'.1 ho'.2.2.2
        have hq := strOf_beq ho.2.2.2 ho'.2.2.2
        have hstep : r.bs = r'.bs → sameTo (texts L) (texts M) (k + 1) := fun he j hj => by
          rcases Nat.lt_or_ge j k with h2 | h2
          · exact HK.out j h2
          · obtain rfl : j = k := by omega
            rw [texts_at hr, texts_at hr', he]
        have hdiff : r.bs ≠ r'.bs → texts L ≠ texts M := fun hd he => hd (by
          have h3 := texts_at hr
          rw [he, texts_at hr'] at h3
          injection h3 with h3
          exact h3.symm)
        have HST := Lib.hid hstep
        have HDF := Lib.hid hdiff
        have HBD := Lib.hid hbd
        clear hc hc' hr hr' ho ho' hstep hdiff hbd
        by_cases he : r.bs = r'.bs
        · have HE := Lib.hid he
          rw [decide_eq_true he] at hq
          have hq2 : ((strOf r.bs).toList != (strOf r'.bs).toList) = false := by rw [bne, hq]; rfl
          clear he
          generalize r.bs.length = n1 at *
          generalize r'.bs.length = n2 at *
          generalize strOf r.bs = s1 at *
          generalize strOf r'.bs = s2 at *
          go_wp2_with fail
          refine wp_region_still_lit (by kernel_rfl) (by kernel_rfl) ?_
          change wpStill _ _ wr.drew (fun b => _) _ _
          generalize wr.drew = w9 at c1 c2 d1 d2 ⊢
          repeat still_step
          refine wpStill_nil ?_
          go_wp2_with fail
          go_roundw
          case rel => exact ⟨k + 1, by omega, by go_num, Lib.hid (HST.out HE.out), HBD⟩
          case measure => simp [intOf]; omega
        · have HE := Lib.hid he
          rw [decide_eq_false he] at hq
          have hq2 : ((strOf r.bs).toList != (strOf r'.bs).toList) = true := by rw [bne, hq]; rfl
          clear he
          generalize r.bs.length = n1 at *
          generalize r'.bs.length = n2 at *
          generalize strOf r.bs = s1 at *
          generalize strOf r'.bs = s2 at *
          go_wp2_with fail
          refine wp_region_still_lit (by kernel_rfl) (by kernel_rfl) ?_
          change wpStill _ _ wr.drew (fun b => _) _ _
          generalize wr.drew = w9 at c1 c2 d1 d2 ⊢
          repeat still_step
          refine wpStill_nil ?_
          go_wp2_with fail
          go_ret
          exact ⟨by rw [decide_eq_false (HDF.out HE.out)]; rfl, HBD.out⟩
      · have hkn : k = n := by omega
        have HA := Lib.hid (show texts L = texts M from sameTo_all (by rw [length_texts, length_texts, HL.out, HM.out]) (by rw [length_texts, HL.out, ← hkn]; exact HK.out))
        clear hkn
        go_wp2
        go_ret
        exact ⟨by rw [decide_eq_true HA.out]; rfl, HB.out⟩
  · have HF := Lib.hid (show decide (texts L = texts M) = false from decide_eq_false fun h1 => h (by have := congrArg List.length h1; rw [length_texts, length_texts] at this; omega))
    have hnm : ((n : Int) != (m : Int)) = true := by simp; omega
    clear hL hM hs hs' h
    go_enter Try.func49, Try.ntmps49
    go_wp2
    go_ret
    exact ⟨by rw [HF.out]; rfl, Below.refl _ _⟩

/-- FI, the number and the fields equal -/
def eqP (fi sn fi' sn' : Int) (t t' : List (List Nat)) : Bool := (fi == fi') && (sn == sn') && decide (t = t')
set_option maxRecDepth 100000 in
set_option maxHeartbeats 1600000 in
theorem rsame_any {A B : Option Addr} {L M : List RowB} (fi sn fi' sn' : Int) (n m cap capb : Nat) (w : World) (hL : L.length = n) (hM : M.length = m) (hn : n ≤ 9223372036854775807) (hs : RSrc w A L) (hs' : RSrc w B M) :
    Calls Try.prog 19 #[.agg #[.int .i64 fi, .int .i64 sn, .slice A n cap], .agg #[.int .i64 fi', .int .i64 sn', .slice B m capb]] w (SameAns (eqP fi sn fi' sn' (texts L) (texts M)) w) := by
  have HF := Lib.hid (fun W (hb : Below w.heap.size w W) => samef_any (A := A) (B := B) n m cap capb W hL hM hn (hs.later hb) (hs'.later hb))
  have HE := Lib.hid (show eqP fi sn fi' sn' (texts L) (texts M) = ((fi == fi') && (sn == sn') && decide (texts L = texts M)) from rfl)
  generalize eqP fi sn fi' sn' (texts L) (texts M) = q at *
  generalize decide (texts L = texts M) = q2 at *
  clear hL hM hs hs'
  cases h1 : (fi == fi')
  · have HQ := Lib.hid (show q = false by rw [HE.out, h1]; rfl)
    go_enter Try.func19, Try.ntmps19
    go_wp2
    go_ret
    exact ⟨by rw [HQ.out]; rfl, bl_alloc (bl_alloc (Below.refl _ _) _) _⟩
  · cases h2 : (sn == sn')
    · have HQ := Lib.hid (show q = false by rw [HE.out, h1, h2]; rfl)
      go_enter Try.func19, Try.ntmps19
      go_wp2
      go_ret
      exact ⟨by rw [HQ.out]; rfl, bl_alloc (bl_alloc (Below.refl _ _) _) _⟩
    · have HQ := Lib.hid (show q = q2 by rw [HE.out, h1, h2]; cases q2 <;> rfl)
      go_enter Try.func19, Try.ntmps19
      go_wp2_with (go_at_call 49; refine (HF.out _ (bl_alloc (bl_alloc (Below.refl _ _) _) _)).mono ?_; rintro e w1 ⟨rfl, hb1⟩)
      go_ret
      exact ⟨by rw [HQ.out]; rfl, bl_step (bl_alloc (bl_alloc (Below.refl _ _) _) _) hb1⟩
set_option maxRecDepth 100000 in
set_option maxHeartbeats 1600000 in
theorem usame_any {A B : Option Addr} {L M : List RowB} (fi sn fi' sn' : Int) (n m cap capb : Nat) (w : World) (hL : L.length = n) (hM : M.length = m) (hn : n ≤ 9223372036854775807) (hs : RSrc w A L) (hs' : RSrc w B M) :
    Calls Try.prog 18 #[.agg #[.int .i64 fi, .int .i64 sn, .slice A n cap], .agg #[.int .i64 fi', .int .i64 sn', .slice B m capb]] w (SameAns (eqP fi sn fi' sn' (texts L) (texts M)) w) := by
  have HF := Lib.hid (fun W (hb : Below w.heap.size w W) => fsame_any (A := A) (B := B) n m cap capb W hL hM hn (hs.later hb) (hs'.later hb))
  have HE := Lib.hid (show eqP fi sn fi' sn' (texts L) (texts M) = ((fi == fi') && (sn == sn') && decide (texts L = texts M)) from rfl)
  generalize eqP fi sn fi' sn' (texts L) (texts M) = q at *
  generalize decide (texts L = texts M) = q2 at *
  clear hL hM hs hs'
  cases h1 : (fi == fi')
  · have HQ := Lib.hid (show q = false by rw [HE.out, h1]; rfl)
    go_enter Try.func18, Try.ntmps18
    go_wp2
    go_ret
    exact ⟨by rw [HQ.out]; rfl, bl_alloc (bl_alloc (Below.refl _ _) _) _⟩
  · cases h2 : (sn == sn')
    · have HQ := Lib.hid (show q = false by rw [HE.out, h1, h2]; rfl)
      go_enter Try.func18, Try.ntmps18
      go_wp2
      go_ret
      exact ⟨by rw [HQ.out]; rfl, bl_alloc (bl_alloc (Below.refl _ _) _) _⟩
    · have HQ := Lib.hid (show q = q2 by rw [HE.out, h1, h2]; cases q2 <;> rfl)
      go_enter Try.func18, Try.ntmps18
      go_wp2_with (go_at_call 48; refine (HF.out _ (bl_alloc (bl_alloc (Below.refl _ _) _) _)).mono ?_; rintro e w1 ⟨rfl, hb1⟩)
      go_ret
      exact ⟨by rw [HQ.out]; rfl, bl_step (bl_alloc (bl_alloc (Below.refl _ _) _) _) hb1⟩
end Go.Proofs.Ytdklddpkklodnaa
