/-
  sent: bytes of a packet become due. sent: Again. sent: Sent. sent: Drop. sent: Bytes. sent: a packet put into a store without packets. sent: of a number that is not kept nothing is meant; Again of it.
-/
import Derived.Test.YtdaipfmckonfpaaJSentCounts08
import Derived.BigQuiet
import Derived.Deep.RegionHeld3
import Derived.Deep.DeepCutAuto
import Derived.Deep.CutBlock
import Derived.Maps.RangeWalk
namespace Go.Proofs.Ytdaipfmckonfpaa
open Go.RowKit Go.Maps

section
variable {B : Nat} {w v : World} {p m1 m2 g s : Nat} {wd fi sn off cnt : Int} {poll last : Bool} {M : List RowB} {o : Option Nat} {D D' : List (Int × Int)} {x : Int × Int}
theorem has_due (h : OneR B w p m1 m2 g wd fi sn poll last off M cnt o D) (a b : Int) : Calls Try.prog 93 #[ptrV o, .agg #[.int .i64 a, .int .i64 b]] w fun e w' => e = .returned (.bool (hasF (a, b) D && srightB (a, b))) ∧ Below w.heap.size w w' := by
  have hd := h.due
  cases o with
  | none =>
    have hd : D = [] := hd
    subst hd
    refine (has_nil (a, b) w).mono ?_
    rintro e w' ⟨rfl, hb⟩
    exact ⟨rfl, hb⟩
  | some s => exact sit_has (a, b) hd _ rfl
theorem stype {w : World} {k s : Nat} {t : TypeId} {cs cs' : Array Value} (hs : Row w s 204 cs) (h : Row w k t cs') (ht : t ≠ 204) : k ≠ s := by
  rintro rfl
  have := hs.symm.trans h
  injection this with this
  injection this with _ h2
  exact ht h2.symm
theorem KeptR.only_set (h : KeptR B w g fi sn poll last off M cnt) {cs : Array Value} (hs : Row w s 204 cs) (ho : Only (fun k => k = s) w v) : KeptR B v g fi sn poll last off M cnt := by
  obtain ⟨A, c, h1, h2⟩ := h.row
  refine ⟨A, c, h1.only ho (stype hs h1 (by decide)), OwnR.only h2 ho (fun k hk e => ?_) (fun k cs hk _ => stype hs hk (by decide))⟩
  subst e
  exact own_apart h2.own hs (by decide) hk
/-- what is due is changed in its own set -/
theorem OneR.set (h : OneR B w p m1 m2 g wd fi sn poll last off M cnt (some s) D) (ho : Only (fun k => k = s) w v) (hd : Sits B s D' v) : OneR B v p m1 m2 g wd fi sn poll last off M cnt (some s) D' := by
  obtain ⟨sv, hs⟩ := Sits.row (show Sits B s D w from h.due)
  refine { h with sto := ⟨h.sto.row.only ho (stype hs h.sto.row (by decide)), h.sto.mp1.only ho (fun e => h.sto.mp1.row_ne hs e.symm), h.sto.mp2.only ho (fun e => h.sto.mp2.row_ne hs e.symm), h.sto.ne⟩, kept := h.kept.only_set hs ho, due := hd, hB := Nat.le_trans h.hB ho.size }
theorem own_map {w : World} {b e size n : Nat} {v : Value} {xs : List Value} (h : w.ownsRow b e size v n xs) {m k : Nat} {M' : Int → Option Nat} (hm : MapP w m k M') : ∀ j, v.ownBlock = some j → j ≠ m := by
  intro j hj
  rcases h.2 with ⟨rfl, _⟩ | ⟨q, cap, cur, rfl, _, hh, _⟩
  · cases hj
  · injection hj with hj
    rintro rfl
    obtain ⟨es, c, hb⟩ := hm.mapped
    rw [show j = q from hj.symm] at hb
    rw [hb] at hh
    cases hh
theorem sits_turned {B s m k : Nat} {L : List (Int × Int)} {M' : Int → Option Nat} {w w' : World} (h : Sits B s L w) (hm : MapP w m k M') (ht : w.mapTurned w' m) : Sits B s L w' := by
  obtain ⟨h1, h2, h3, sv, h4⟩ := h
  have ho : Only (fun k => k = m) w w' := monly_turned ht rfl
  exact ⟨h1, Nat.le_trans h2 ho.size, h3, sv, h4.only ho (hm.row_ne h4.2.1) (fun j hj => own_map h4.2.2 hm j hj)⟩
theorem kept_turned {m k : Nat} {M' : Int → Option Nat} {w w' : World} (h : KeptR B w g fi sn poll last off M cnt) (hm : MapP w m k M') (ht : w.mapTurned w' m) : KeptR B w' g fi sn poll last off M cnt := by
  have ho : Only (fun k => k = m) w w' := monly_turned ht rfl
  obtain ⟨A, c, h1, h2⟩ := h.row
  exact ⟨A, c, mRow_turned h1 ht (hm.row_ne h1), OwnR.only h2 ho (fun j hj => own_map h2.own hm j hj) (fun j cs hj _ => hm.row_ne hj)⟩
/-- a set that New made is laid into the map -/
theorem OneR.lay (h : OneR B w p m1 m2 g wd fi sn poll last off M cnt none D) (hs : Sits B s [] w) {w' : World} (hm : MapP w' m2 1 (fun x => if x = sn then some s else if x = sn then none else none)) (ht : w.mapTurned w' m2) : OneR B w' p m1 m2 g wd fi sn poll last off M cnt (some s) [] := by
  have ho : Only (fun k => k = m2) w w' := monly_turned ht rfl
  refine { h with sto := ⟨mRow_turned h.sto.row ht (h.sto.mp2.row_ne h.sto.row), h.sto.mp1.only ho h.sto.ne, ?_, h.sto.ne⟩, kept := kept_turned h.kept h.sto.mp2 ht, due := sits_turned hs h.sto.mp2 ht, hB := Nat.le_trans h.hB ho.size }
  · have e : (fun x : Int => if x = sn then some s else if x = sn then none else none) = fun x => if x = sn then some s else none := by
      funext x; split <;> rfl
    rw [e] at hm
    exact hm
theorem OneR.down (h : OneR B w p m1 m2 g wd fi sn poll last off M cnt o D) (hb : Below w.heap.size w v) : Below B w v := hb.mono h.hB
set_option maxRecDepth 100000 in
set_option maxHeartbeats 3200000 in
theorem owe_new (h : OneR B w p m1 m2 g wd fi sn poll last off M cnt none D) (a b : Int) (hx : srightB (a, b) = true) : Calls Try.prog 94 #[.pointer (some ⟨p, 0, none⟩), .int .i64 sn, .agg #[.int .i64 a, .int .i64 b]] w fun e w' => e = .returned (.tuple #[]) ∧ ∃ s, OneR B w' p m1 m2 g wd fi sn poll last off M cnt (some s) (addF (a, b) D) ∧ Below B w w' := by
  have hD : D = [] := h.due
  subst hD
  have hb0 := bl_alloc (Below.refl w.heap.size w) (.cells #[.int .i64 a, .int .i64 b] 75)
  have HB0 := Lib.hid (h.down hb0)
  have HR := Lib.hid (Row.made w 75 #[.int .i64 a, .int .i64 b])
  have H0 := Lib.hid (h.later hb0)
  have hBB := h.hB
  have HN := Lib.hid (new_sits (w.alloc (.cells #[.int .i64 a, .int .i64 b] 75)))
  have hwf := h.wf
  have c2 := H0.out.sto.row.read (i := 2) rfl
  have HX := Lib.hid hx
  clear h hb0 hx
  go_enter Try.func94, Try.ntmps94
  go_upto_region 1 with fail
  generalize hW : w.alloc (.cells #[.int .i64 a, .int .i64 b] 75) = w0 at *
  have hsz : w0.heap.size = w.heap.size + 1 := by rw [← hW]; simp
  have hB2 : B ≤ w0.heap.size := by omega
  clear hsz
  clear hW
  go_wp2_with (first
    | (at_lookup; refine wpList_mlook rfl _ _ 133 rfl 144 Try.underdm (zeroS _) rfl H0.out.sto.mp2 rfl hwf (.pointer none) (by rw [if_pos rfl]; rfl) ?_)
    | (go_at_call 148; (with_reducible refine HN.out.mono ?_); rintro e w1 ⟨rfl, hs, hb⟩; (have HS1 := Lib.hid hs; have HB1 := Lib.hid hb; have H1 := Lib.hid (H0.out.later hb); clear hs hb c2; have c2 := H1.out.sto.row.read (i := 2) rfl))
    | (at_mapUpdate; refine wpList_mput rfl _ _ _ 133 rfl 144 Try.underdm rfl H1.out.sto.mp2 (by simp [maxLen]) rfl hwf w0.heap.size rfl ?_; intro w3 hmp hturn; (
        have hs3 := sits_turned (HS1.out.down hB2) H1.out.sto.mp2 hturn
        have h3 := H1.out.lay (HS1.out.down hB2) (by simpa using hmp) hturn
        have HS3 := Lib.hid hs3
        have H3 := Lib.hid h3
        have HT3 := Lib.hid hturn
        have hr3 := mRow_turned (HR.out.later HB1.out) hturn (H1.out.sto.mp2.row_ne (HR.out.later HB1.out))
        have r0 := hr3.read (i := 0) rfl
        have r1 := hr3.read (i := 1) rfl
        have HAD := Lib.hid (sit_add (a, b) hs3 (by simp))
        rw [show opE (a, b) = 0 from by unfold opE; rw [if_pos HX.out]] at HAD
        unfold spv at HAD
        clear hmp hturn hs3 h3 hr3 c2))
    | (go_at_call 149; (with_reducible refine HAD.out.mono ?_); rintro e w4 ⟨rfl, hs4, ho4⟩; (have HS4 := Lib.hid hs4; have HO4 := Lib.hid ho4; clear hs4 ho4)))
  have hB1 : Below B w w3 := (HB0.out.trans (HB1.out.mono hB2)).trans ((monly_turned HT3.out (S := fun k => k = m2) rfl).below H1.out.hB (fun k hk e => by have := H1.out.bm2; omega))
  have e1 : addO (a, b) [] = addF (a, b) [] := by unfold addO; rw [if_pos HX.out]
  go_end0
  exact ⟨rfl, w0.heap.size, H3.out.set HO4.out (by have h := HS4.out; rw [e1] at h; exact h), hB1.trans (HO4.out.below H3.out.hB (fun k hk e => by omega))⟩
set_option maxRecDepth 100000 in
set_option maxHeartbeats 3200000 in
theorem owe_old (h : OneR B w p m1 m2 g wd fi sn poll last off M cnt (some s) D) (a b : Int) (hx : srightB (a, b) = true) (hl : D.length ≤ 2047) : Calls Try.prog 94 #[.pointer (some ⟨p, 0, none⟩), .int .i64 sn, .agg #[.int .i64 a, .int .i64 b]] w fun e w' => e = .returned (.tuple #[]) ∧ ∃ s, OneR B w' p m1 m2 g wd fi sn poll last off M cnt (some s) (addF (a, b) D) ∧ Below B w w' := by
  have hb0 := bl_alloc (Below.refl w.heap.size w) (.cells #[.int .i64 a, .int .i64 b] 75)
  have HB0 := Lib.hid (h.down hb0)
  have HR := Lib.hid (Row.made w 75 #[.int .i64 a, .int .i64 b])
  have H0 := Lib.hid (h.later hb0)
  have hwf := h.wf
  have c2 := H0.out.sto.row.read (i := 2) rfl
  have HX := Lib.hid hx
  have r0 := HR.out.read (i := 0) rfl
  have r1 := HR.out.read (i := 1) rfl
  have HAD := Lib.hid (sit_add (a, b) (show Sits B s D _ from H0.out.due) hl)
  rw [show opE (a, b) = 0 from by unfold opE; rw [if_pos hx]] at HAD
  unfold spv at HAD
  clear h hb0 hx hl
  go_enter Try.func94, Try.ntmps94
  go_wp2_with (first
    | (at_lookup; refine wpList_mlook rfl _ _ 133 rfl 144 Try.underdm (zeroS _) rfl H0.out.sto.mp2 rfl hwf (.pointer (some ⟨s, 0, none⟩)) (by rw [if_pos rfl]; rfl) ?_)
    | (go_at_call 149; (with_reducible refine HAD.out.mono ?_); rintro e w4 ⟨rfl, hs4, ho4⟩; (have HS4 := Lib.hid hs4; have HO4 := Lib.hid ho4; clear hs4 ho4)))
  have e1 : addO (a, b) D = addF (a, b) D := by unfold addO; rw [if_pos HX.out]
  have hsB : B ≤ s := (show Sits B s D _ from H0.out.due).1
  go_end0
  exact ⟨rfl, s, H0.out.set HO4.out (by have h := HS4.out; rw [e1] at h; exact h), HB0.out.trans (HO4.out.below H0.out.hB (fun k hk e => by omega))⟩
theorem owe_any (h : OneR B w p m1 m2 g wd fi sn poll last off M cnt o D) (a b : Int) (hx : srightB (a, b) = true) (hl : D.length ≤ 2047) : Calls Try.prog 94 #[.pointer (some ⟨p, 0, none⟩), .int .i64 sn, .agg #[.int .i64 a, .int .i64 b]] w fun e w' => e = .returned (.tuple #[]) ∧ ∃ s, OneR B w' p m1 m2 g wd fi sn poll last off M cnt (some s) (addF (a, b) D) ∧ Below B w w' := by
  cases o with
  | none => exact owe_new h a b hx
  | some s => exact owe_old h a b hx hl
end
end Go.Proofs.Ytdaipfmckonfpaa
namespace Go.Proofs.Ytdaipfmckonfpaa
open Go.RowKit Go.Maps

section
variable {B : Nat} {w v : World} {p m1 m2 g s : Nat} {wd fi sn off cnt : Int} {poll last : Bool} {M : List RowB} {o : Option Nat} {D : List (Int × Int)} {x : Int × Int}
theorem OneR.meant (h : OneR B w p m1 m2 g wd fi sn poll last off M cnt o D) (fr tq : Int) : Calls Try.prog 92 #[.pointer (some ⟨p, 0, none⟩), .int .i64 sn, .int .i64 fr, .int .i64 tq] w fun e w' => e = .returned (someV (someF (dataN M) fr tq)) ∧ Below w.heap.size w w' :=
  ssome_any h.sto h.wf (by rw [if_pos rfl]) h.kept h.few (Nat.le_trans h.sum (by decide)) fr tq
set_option maxRecDepth 100000 in
set_option maxHeartbeats 3200000 in
theorem again_bad (h : OneR B w p m1 m2 g wd fi sn poll last off M cnt o D) (fr tq : Int) (hx : someF (dataN M) fr tq = none) : Calls Try.prog 37 #[.pointer (some ⟨p, 0, none⟩), .int .i64 sn, .int .i64 fr, .int .i64 tq] w fun e w' => e = .returned (.tuple #[.int .i64 0, .int .i64 1]) ∧ Below w.heap.size w w' := by
  have HS := Lib.hid (OneR.meant h fr tq)
  rw [hx] at HS
  unfold someV at HS
  clear h hx
  go_enter Try.func37, Try.ntmps37
  go_wp2_with (go_at_call 92; (with_reducible refine HS.out.mono ?_); rintro e w1 ⟨rfl, hb⟩; (have HB := Lib.hid hb; clear hb))
  go_ret2
  exact ⟨rfl, by first | exact bl_step HB.out (bl_alloc (Below.refl _ _) _) | exact HB.out⟩
theorem someF_right {S : Nat} {fr tq a b : Int} (h : someF S fr tq = some (a, b)) : 0 ≤ a ∧ a < b ∧ b ≤ S := by
  unfold someF at h
  simp only at h
  by_cases h1 : tq = 0 ∨ (S : Int) < tq
  · rw [if_pos h1] at h
    by_cases h2 : fr < 0 ∨ (S : Int) ≤ fr
    · rw [if_pos h2] at h; cases h
    · rw [if_neg h2] at h
      injection h with h
      injection h with h1 h2
      omega
  · rw [if_neg h1] at h
    by_cases h2 : fr < 0 ∨ tq ≤ fr
    · rw [if_pos h2] at h; cases h
    · rw [if_neg h2] at h
      injection h with h
      injection h with h1 h2
      omega
theorem ktype {w : World} {k s : Nat} {t : TypeId} {cs cs' : Array Value} (hs : Row w s 140 cs) (h : Row w k t cs') (ht : t ≠ 140) : k ≠ s := by
  rintro rfl
  have := hs.symm.trans h
  injection this with this
  injection this with _ h2
  exact ht h2.symm
theorem OneR.bump (h : OneR B w p m1 m2 g wd fi sn poll last off M cnt o D) (c' : Int) : OneR B (w.setCell ⟨g, 7, none⟩ (.int .i64 c')) p m1 m2 g wd fi sn poll last off M c' o D ∧ Only (fun k => k = g) w (w.setCell ⟨g, 7, none⟩ (.int .i64 c')) := by
  obtain ⟨A, c, h1, h2⟩ := h.kept.row
  have ho : Only (fun k => k = g) w (w.setCell ⟨g, 7, none⟩ (.int .i64 c')) := (Only.refl (fun k => k = g) w).set (p := ⟨g, 7, none⟩) (.inl rfl) _
  have hrow : Row (w.setCell ⟨g, 7, none⟩ (.int .i64 c')) g 140 #[.bool poll, .int .i64 fi, .int .i64 sn, .bool false, .bool last, .int .i64 off, .slice A M.length c, .int .i64 c'] := h1.written 7 _
  have hown : OwnR B (w.setCell ⟨g, 7, none⟩ (.int .i64 c')) (.slice A M.length c) M := OwnR.only h2 ho (fun k hk e => by subst e; exact own_apart h2.own h1 (by decide) hk) (fun k cs hk _ => ktype h1 hk (by decide))
  have hd : DueR B (w.setCell ⟨g, 7, none⟩ (.int .i64 c')) o D := by
    have hd := h.due
    cases o with
    | none => exact hd
    | some s =>
      have hs : Sits B s D w := hd
      obtain ⟨sv, hsr⟩ := hs.row
      exact hs.other h1 (by decide) (ktype h1 hsr (by decide)) ho
  exact ⟨{ h with sto := ⟨h.sto.row.only ho (ktype h1 h.sto.row (by decide)), h.sto.mp1.only ho (fun e => h.sto.mp1.row_ne h1 e.symm), h.sto.mp2.only ho (fun e => h.sto.mp2.row_ne h1 e.symm), h.sto.ne⟩, kept := ⟨A, c, hrow, hown⟩, due := hd, hB := Nat.le_trans h.hB ho.size }, ho⟩
set_option maxRecDepth 100000 in
set_option maxHeartbeats 3200000 in
theorem again_has (h : OneR B w p m1 m2 g wd fi sn poll last off M cnt o D) (fr tq a b : Int) (hx : someF (dataN M) fr tq = some (a, b)) (hh : (hasF (a, b) D && srightB (a, b)) = true) : Calls Try.prog 37 #[.pointer (some ⟨p, 0, none⟩), .int .i64 sn, .int .i64 fr, .int .i64 tq] w fun e w' => e = .returned (.tuple #[.int .i64 cnt, .int .i64 0]) ∧ Below w.heap.size w w' := by
  have hr := someF_right hx
  have hsum := h.sum
  have hrt : srightB (a, b) = true := rightB_iff.2 ⟨by simp only; omega, by simp only; omega, by simp only; omega⟩
  have HRT := Lib.hid hrt
  have HS := Lib.hid (OneR.meant h fr tq)
  rw [hx] at HS
  unfold someV at HS
  simp only at HS
  have H0 := Lib.hid h
  have HH := Lib.hid hh
  have hwf := h.wf
  clear h hx hh hr hsum hrt
  go_enter Try.func37, Try.ntmps37
  go_upto_region 4 with (go_at_call 92; (with_reducible refine HS.out.mono ?_); rintro e w1 ⟨rfl, hb⟩; (have HB := Lib.hid hb; clear hb))
  have H1 := Lib.hid ((H0.out.later HB.out).later (bl_alloc (Below.refl _ _) (.cells #[.int .i64 a, .int .i64 b] 75)))
  have HB1 := Lib.hid (bl_step HB.out (bl_alloc (Below.refl _ _) (.cells #[.int .i64 a, .int .i64 b] 75)))
  have HR1 := Lib.hid (Row.made w1 75 #[.int .i64 a, .int .i64 b])
  have HF := Lib.hid H1.out.find
  generalize w1.alloc (.cells #[.int .i64 a, .int .i64 b] 75) = wq at *
  go_upto_region 5 with (go_at_call 89; (with_reducible refine HF.out.mono ?_); rintro e w9 ⟨rfl, rfl⟩)
  have H2 := Lib.hid (H1.out.later (bl_drew (Below.refl _ _)))
  have HR2 := Lib.hid HR1.out.drawn
  have hrun := H2.out.sto.mp2.look Try.underdm (zeroS _) hwf
  rw [if_pos rfl] at hrun
  have HHS := Lib.hid (has_due H2.out a b)
  rw [HH.out] at HHS
  have k0 : wq.drew.cell? ⟨p, 2, none⟩ = some (.map (some m2)) ∧ wq.drew.cell? ⟨w1.heap.size, 0, none⟩ = some (.int .i64 a) ∧ wq.drew.cell? ⟨w1.heap.size, 1, none⟩ = some (.int .i64 b) := ⟨H2.out.sto.row.read rfl, HR2.out.read rfl, HR2.out.read rfl⟩
  go_wp2
  go_region_held3 (fun w' => w'.cell? ⟨p, 2, none⟩ = some (.map (some m2)) ∧ w'.cell? ⟨w1.heap.size, 0, none⟩ = some (.int .i64 a) ∧ w'.cell? ⟨w1.heap.size, 1, none⟩ = some (.int .i64 b)) (first | with_reducible exact k0 | with_reducible exact k1 | go_keep)
    (first
      | (go_at_call 93; (with_reducible refine HHS.out.mono ?_); rintro e w3 ⟨rfl, hb⟩; (have HB3 := Lib.hid hb; have H3 := Lib.hid (H2.out.later hb); have HR3 := Lib.hid (HR2.out.later hb); have k1 : w3.cell? ⟨p, 2, none⟩ = some (.map (some m2)) ∧ w3.cell? ⟨w1.heap.size, 0, none⟩ = some (.int .i64 a) ∧ w3.cell? ⟨w1.heap.size, 1, none⟩ = some (.int .i64 b) := ⟨H3.out.sto.row.read rfl, HR3.out.read rfl, HR3.out.read rfl⟩; clear hb)))
  obtain ⟨A, c, hg⟩ := H3.out.count
  have c7 := hg.read (i := 7) rfl
  go_wp2
  go_ret2
  exact ⟨rfl, bl_step (bl_step HB1.out (bl_drew (Below.refl _ _))) HB3.out⟩
set_option maxRecDepth 100000 in
set_option maxHeartbeats 3200000 in
theorem again_new (h : OneR B w p m1 m2 g wd fi sn poll last off M cnt o D) (fr tq a b : Int) (hx : someF (dataN M) fr tq = some (a, b)) (hh : (hasF (a, b) D && srightB (a, b)) = false) (hl : D.length ≤ 2047) (hc0 : 0 ≤ cnt) (hc1 : cnt ≤ 1000000) : Calls Try.prog 37 #[.pointer (some ⟨p, 0, none⟩), .int .i64 sn, .int .i64 fr, .int .i64 tq] w fun e w' => e = .returned (.tuple #[.int .i64 (cnt + 1), .int .i64 0]) ∧ ∃ s, OneR B w' p m1 m2 g wd fi sn poll last off M (cnt + 1) (some s) (addF (a, b) D) ∧ Below B w w' := by
  have hr := someF_right hx
  have hsum := h.sum
  have hrt : srightB (a, b) = true := rightB_iff.2 ⟨by simp only; omega, by simp only; omega, by simp only; omega⟩
  have HRT := Lib.hid hrt
  have HS := Lib.hid (OneR.meant h fr tq)
  rw [hx] at HS
  unfold someV at HS
  simp only at HS
  have H0 := Lib.hid h
  have HH := Lib.hid hh
  have hwf := h.wf
  clear h hx hh hr hsum hrt
  go_enter Try.func37, Try.ntmps37
  go_upto_region 4 with (go_at_call 92; (with_reducible refine HS.out.mono ?_); rintro e w1 ⟨rfl, hb⟩; (have HB := Lib.hid hb; clear hb))
  have H1 := Lib.hid ((H0.out.later HB.out).later (bl_alloc (Below.refl _ _) (.cells #[.int .i64 a, .int .i64 b] 75)))
  have HB1 := Lib.hid (bl_step HB.out (bl_alloc (Below.refl _ _) (.cells #[.int .i64 a, .int .i64 b] 75)))
  have HR1 := Lib.hid (Row.made w1 75 #[.int .i64 a, .int .i64 b])
  have HF := Lib.hid H1.out.find
  generalize w1.alloc (.cells #[.int .i64 a, .int .i64 b] 75) = wq at *
  go_upto_region 5 with (go_at_call 89; (with_reducible refine HF.out.mono ?_); rintro e w9 ⟨rfl, rfl⟩)
  have H2 := Lib.hid (H1.out.later (bl_drew (Below.refl _ _)))
  have HR2 := Lib.hid HR1.out.drawn
  have hrun := H2.out.sto.mp2.look Try.underdm (zeroS _) hwf
  rw [if_pos rfl] at hrun
  have HHS := Lib.hid (has_due H2.out a b)
  rw [HH.out] at HHS
  have k0 : wq.drew.cell? ⟨p, 2, none⟩ = some (.map (some m2)) ∧ wq.drew.cell? ⟨w1.heap.size, 0, none⟩ = some (.int .i64 a) ∧ wq.drew.cell? ⟨w1.heap.size, 1, none⟩ = some (.int .i64 b) := ⟨H2.out.sto.row.read rfl, HR2.out.read rfl, HR2.out.read rfl⟩
  go_wp2
  go_region_held3 (fun w' => w'.cell? ⟨p, 2, none⟩ = some (.map (some m2)) ∧ w'.cell? ⟨w1.heap.size, 0, none⟩ = some (.int .i64 a) ∧ w'.cell? ⟨w1.heap.size, 1, none⟩ = some (.int .i64 b)) (first | with_reducible exact k0 | with_reducible exact k1 | go_keep)
    (first
      | (go_at_call 93; (with_reducible refine HHS.out.mono ?_); rintro e w3 ⟨rfl, hb⟩; (have HB3 := Lib.hid hb; have H3 := Lib.hid (H2.out.later hb); have HR3 := Lib.hid (HR2.out.later hb); have k1 : w3.cell? ⟨p, 2, none⟩ = some (.map (some m2)) ∧ w3.cell? ⟨w1.heap.size, 0, none⟩ = some (.int .i64 a) ∧ w3.cell? ⟨w1.heap.size, 1, none⟩ = some (.int .i64 b) := ⟨H3.out.sto.row.read rfl, HR3.out.read rfl, HR3.out.read rfl⟩; clear hb)))
  obtain ⟨k1, k2, k3⟩ := k1
  have HO := Lib.hid (owe_any H3.out a b HRT.out hl)
  go_upto_region 7 with (go_at_call 94; (with_reducible refine HO.out.mono ?_); rintro e w4 ⟨rfl, s, h4, hb4⟩; (have H4 := Lib.hid h4; have HB4 := Lib.hid hb4; clear h4 hb4))
  obtain ⟨A, c, hg⟩ := H4.out.count
  have c7 := hg.read (i := 7) rfl
  have f7 := hg.free 7
  have hg2 := hg.written 7 (.int .i64 (cnt + 1))
  have c8 := hg2.read (i := 7) rfl
  have HG := Lib.hid hg
  go_wp2
  go_ret2
  obtain ⟨hb1, hb2⟩ := H4.out.bump (cnt + 1)
  have hBB := H0.out.hB
  exact ⟨rfl, s, hb1, (((HB1.out.mono hBB).trans ((bl_drew (Below.refl _ _)).mono H1.out.hB)).trans (HB3.out.mono H2.out.hB)).trans (HB4.out.trans (hb2.below H4.out.hB (fun k hk e => by have := H4.out.bg; omega)))⟩
end
end Go.Proofs.Ytdaipfmckonfpaa
namespace Go.Proofs.Ytdaipfmckonfpaa
open Go.RowKit Go.Maps

section
variable {B : Nat} {w v : World} {p m1 m2 g s : Nat} {wd fi sn off cnt : Int} {poll last : Bool} {M : List RowB} {o : Option Nat} {D : List (Int × Int)} {x : Int × Int}
theorem countF_pos : ∀ {L : List (Int × Int)} {lo : Int}, Norm lo L → 0 ≤ countF L ∧ (countF L = 0 → L = [])
  | [], _, _ => ⟨by rw [countF_nil]; omega, fun _ => rfl⟩
  | y :: r, lo, h => by
    obtain ⟨h1, h2, h3, h4⟩ := h
    obtain ⟨h5, h6⟩ := countF_pos h4
    rw [countF_cons]
    exact ⟨by omega, fun h0 => by omega⟩
/-- the due packet's set is gone -/
theorem OneR.gone (h : OneR B w p m1 m2 g wd fi sn poll last off M cnt o D) {k : Nat} {w' : World} (hk : k = 0) (hm : MapP w' m2 k (fun x => if x = sn then none else if x = sn then o else none)) (ht : w.mapTurned w' m2) : OneR B w' p m1 m2 g wd fi sn poll last off M cnt none [] := by
  have ho : Only (fun k => k = m2) w w' := monly_turned ht rfl
  have e : (fun x : Int => if x = sn then none else if x = sn then o else none) = fun x => if x = sn then (none : Option Nat) else none := by
    funext x
    split
    · rfl
    · rfl
  rw [e, hk] at hm
  exact { h with sto := ⟨mRow_turned h.sto.row ht (h.sto.mp2.row_ne h.sto.row), h.sto.mp1.only ho h.sto.ne, hm, h.sto.ne⟩, kept := kept_turned h.kept h.sto.mp2 ht, due := rfl, hB := Nat.le_trans h.hB ho.size }
set_option maxRecDepth 100000 in
set_option maxHeartbeats 3200000 in
theorem sent_ok (h : OneR B w p m1 m2 g wd fi sn poll last off M cnt (some s) D) (fr tq a b : Int) (hx : someF (dataN M) fr tq = some (a, b)) (hl : D.length ≤ 2047) : Calls Try.prog 41 #[.pointer (some ⟨p, 0, none⟩), .int .i64 sn, .int .i64 fr, .int .i64 tq] w fun e w' => e = .returned (.int .i64 0) ∧ ∃ o', (takeF (a, b) D = [] → o' = none) ∧ OneR B w' p m1 m2 g wd fi sn poll last off M cnt o' (takeF (a, b) D) ∧ Below B w w' := by
  have hr := someF_right hx
  have hsum := h.sum
  have hrt : srightB (a, b) = true := rightB_iff.2 ⟨by simp only; omega, by simp only; omega, by simp only; omega⟩
  have HRT := Lib.hid hrt
  have HS := Lib.hid (OneR.meant h fr tq)
  rw [hx] at HS
  unfold someV at HS
  simp only at HS
  have H0 := Lib.hid h
  have hwf := h.wf
  have HLD := Lib.hid hl
  clear h hx hr hsum hrt hl
  go_enter Try.func41, Try.ntmps41
  go_upto_region 4 with (go_at_call 92; (with_reducible refine HS.out.mono ?_); rintro e w1 ⟨rfl, hb⟩; (have HB := Lib.hid hb; clear hb))
  have H1 := Lib.hid ((H0.out.later HB.out).later (bl_alloc (Below.refl _ _) (.cells #[.int .i64 a, .int .i64 b] 75)))
  have HB1 := Lib.hid (bl_step HB.out (bl_alloc (Below.refl _ _) (.cells #[.int .i64 a, .int .i64 b] 75)))
  have HR1 := Lib.hid (Row.made w1 75 #[.int .i64 a, .int .i64 b])
  generalize w1.alloc (.cells #[.int .i64 a, .int .i64 b] 75) = wq at *
  have c2 := H1.out.sto.row.read (i := 2) rfl
  have r0 := HR1.out.read (i := 0) rfl
  have r1 := HR1.out.read (i := 1) rfl
  have hsit : Sits B s D wq := H1.out.due
  have htk := sit_take (a, b) hsit HLD.out
  have e1 : takeO (a, b) D = takeF (a, b) D := by unfold takeO; rw [if_pos HRT.out]
  rw [e1, show opE (a, b) = 0 from by unfold opE; rw [if_pos HRT.out]] at htk
  unfold spv at htk
  have HTK := Lib.hid htk
  have hsB : B ≤ s := hsit.1
  have hlen : (takeF (a, b) D).length ≤ D.length + 1 := by rw [← e1]; exact takeO_len hsit.2.2.1
  have HLN := Lib.hid (show (takeF (a, b) D).length ≤ 100000 by have := HLD.out; omega)
  clear htk hsit e1 hlen
  go_upto_region 6 with (first
    | (at_lookup; refine wpList_mlook rfl _ _ 133 rfl 144 Try.underdm (zeroS _) rfl H1.out.sto.mp2 rfl hwf (.pointer (some ⟨s, 0, none⟩)) (by rw [if_pos rfl]; rfl) ?_)
    | (go_at_call 97; (with_reducible refine HTK.out.mono ?_); rintro e w4 ⟨rfl, hs4, ho4⟩; (have HS4 := Lib.hid hs4; have HO4 := Lib.hid ho4; have H4 := Lib.hid (H1.out.set ho4 hs4); have HC := Lib.hid (sit_count hs4 HLN.out); clear hs4 ho4 c2 r0 r1)))
  have HBB := Lib.hid (((HB1.out.mono H0.out.hB).trans (HO4.out.below H1.out.hB (fun k hk e => by omega))))
  obtain ⟨hc0, hce⟩ := countF_pos (show Norm 0 (takeF (a, b) D) from HS4.out.2.2.1)
  by_cases hz : countF (takeF (a, b) D) = 0
  · have hnil := hce hz
    rw [hz] at HC
    have HN := Lib.hid hnil
    clear hce hc0 hz hnil
    go_wp2_with (first
      | (go_at_call 95; (with_reducible refine HC.out.mono ?_); rintro e w5 ⟨rfl, hb⟩; (have H5 := Lib.hid (H4.out.later hb); have HB5 := Lib.hid hb; have c2 := H5.out.sto.row.read (i := 2) rfl; clear hb))
      | (at_delete; refine wpList_mdrop rfl _ _ 133 rfl 144 Try.underdm rfl H5.out.sto.mp2 rfl hwf ?_; intro w6 hmp ht; (have HMP := Lib.hid hmp; have HT := Lib.hid ht; clear hmp ht)))
    go_ret
    have hb6 : Below B w w6 := (HBB.out.trans (HB5.out.mono H4.out.hB)).trans ((monly_turned HT.out (S := fun k => k = m2) rfl).below H5.out.hB (fun k hk e => by have := H5.out.bm2; omega))
    exact ⟨rfl, none, fun _ => rfl, by rw [HN.out]; exact H5.out.gone (by simp) HMP.out HT.out, hb6⟩
  · have hz2 : (countF (takeF (a, b) D) == 0) = false := by simpa using hz
    have HZ := Lib.hid hz
    clear hce hc0 hz
    go_wp2_with (go_at_call 95; (with_reducible refine HC.out.mono ?_); rintro e w5 ⟨rfl, hb⟩; (have H5 := Lib.hid (H4.out.later hb); have HB5 := Lib.hid hb; clear hb))
    go_ret
    exact ⟨rfl, some s, fun h0 => absurd (by rw [h0]; rfl) HZ.out, H5.out, HBB.out.trans (HB5.out.mono H4.out.hB)⟩
end
end Go.Proofs.Ytdaipfmckonfpaa
namespace Go.Proofs.Ytdaipfmckonfpaa
open Go.RowKit Go.Maps

section
variable {B : Nat} {w v : World} {p m1 m2 g s k1 k2 : Nat} {wd fi sn off cnt n : Int} {poll last : Bool} {M : List RowB} {o : Option Nat} {D : List (Int × Int)} {M1 M2 : Int → Option Nat}
set_option maxRecDepth 100000 in
set_option maxHeartbeats 1600000 in
theorem sdrop_none (h : StoR w p m1 m2 wd k1 k2 M1 M2) (hn : (Lit.int .i64 n).wf = true) (hg : M1 n = none) : Calls Try.prog 42 #[.pointer (some ⟨p, 0, none⟩), .int .i64 n] w fun e w' => e = .returned (.int .i64 4) ∧ w = w' := by
  have hf := sfind_any h hn
  rw [hg] at hf
  unfold ptrV at hf
  have HF := Lib.hid hf
  have HM := Lib.hid (smade_any h)
  clear h hf
  go_enter Try.func42, Try.ntmps42
  go_wp2_with (first
    | (go_at_call 88; (with_reducible refine HM.out.mono ?_); rintro e w1 ⟨rfl, rfl⟩)
    | (go_at_call 89; (with_reducible refine HF.out.mono ?_); rintro e w1 ⟨rfl, rfl⟩))
  go_ret
  exact ⟨rfl, rfl⟩
set_option maxRecDepth 100000 in
set_option maxHeartbeats 1600000 in
theorem sdrop_ok (h : OneR B w p m1 m2 g wd fi sn poll last off M cnt o D) : Calls Try.prog 42 #[.pointer (some ⟨p, 0, none⟩), .int .i64 sn] w fun e w' => e = .returned (.int .i64 0) ∧ StoR w' p m1 m2 wd 0 0 (fun _ => none) (fun _ => none) ∧ Below B w w' := by
  have HF := Lib.hid h.find
  have HM := Lib.hid (smade_any h.sto)
  have H0 := Lib.hid h
  have hwf := h.wf
  have c1 := h.sto.row.read (i := 1) rfl
  clear h
  go_enter Try.func42, Try.ntmps42
  go_wp2_with (first
    | (go_at_call 88; (with_reducible refine HM.out.mono ?_); rintro e w1 ⟨rfl, rfl⟩)
    | (go_at_call 89; (with_reducible refine HF.out.mono ?_); rintro e w1 ⟨rfl, rfl⟩)
    | (at_delete; refine wpList_mdrop rfl _ _ 132 rfl 136 Try.underkm rfl H0.out.sto.mp1 rfl hwf ?_; intro w5 hmp ht; (
        have HMP := Lib.hid hmp
        have HT := Lib.hid ht
        have hr5 := mRow_turned H0.out.sto.row ht (H0.out.sto.mp1.row_ne H0.out.sto.row)
        have HR5 := Lib.hid hr5
        have hm2 := H0.out.sto.mp2.only (monly_turned ht (S := fun k => k = m1) rfl) (fun e => H0.out.sto.ne e.symm)
        have HM2 := Lib.hid hm2
        have c2 := hr5.read (i := 2) rfl
        clear hmp ht hr5 hm2 c1))
    | (at_delete; refine wpList_mdrop rfl _ _ 133 rfl 144 Try.underdm rfl HM2.out rfl hwf ?_; intro w6 hmp ht; (have HMP6 := Lib.hid hmp; have HT6 := Lib.hid ht; clear hmp ht)))
  go_ret
  have h1 := HMP.out
  have h2 := HMP6.out
  have e1 : (fun x : Int => if x = sn then none else if x = sn then some g else none) = fun _ => (none : Option Nat) := by funext x; split <;> rfl
  have e2 : (fun x : Int => if x = sn then none else if x = sn then o else none) = fun _ => (none : Option Nat) := by funext x; split <;> rfl
  rw [e1] at h1
  rw [e2] at h2
  have h1' : MapP w5 m1 0 (fun _ => none) := by simpa using h1
  have h2' : MapP w6 m2 0 (fun _ => none) := by cases o <;> simpa using h2
  exact ⟨rfl, ⟨mRow_turned HR5.out HT6.out (HM2.out.row_ne HR5.out), h1'.only (monly_turned HT6.out (S := fun k => k = m2) rfl) H0.out.sto.ne, h2', H0.out.sto.ne⟩,
    ((monly_turned HT.out (S := fun k => k = m1) rfl).below H0.out.hB (fun k hk e => by have := H0.out.bm1; omega)).trans ((monly_turned HT6.out (S := fun k => k = m2) rfl).below (Nat.le_trans H0.out.hB (monly_turned HT.out (S := fun k => k = m1) rfl).size) (fun k hk e => by have := H0.out.bm2; omega))⟩
end
end Go.Proofs.Ytdaipfmckonfpaa
namespace Go.Proofs.Ytdaipfmckonfpaa
open Go.RowKit Go.Maps

theorem ptrElem_val (v : Value) (y : DataW Unit × List MemPlace) (h : ptrElem v = some y) : ∃ c : Option Nat, v = ptrV c := by
  unfold ptrElem at h
  split at h
  · exact ⟨none, rfl⟩
  · exact ⟨some _, rfl⟩
  · cases h
section
variable {B : Nat} {w v : World} {p m1 m2 g s : Nat} {wd fi sn off cnt : Int} {poll last : Bool} {M : List RowB} {o : Option Nat} {D : List (Int × Int)}
set_option maxRecDepth 100000 in
set_option maxHeartbeats 3200000 in
theorem sbytes_any (h : OneR B w p m1 m2 g wd fi sn poll last off M cnt o D) (hl : D.length ≤ 100000) (hc : countF D ≤ 1000000) : Calls Try.prog 38 #[.pointer (some ⟨p, 0, none⟩)] w fun e w' => e = .returned (.int .i64 (countF D)) ∧ Below w.heap.size w w' := by
  have HM := Lib.hid (smade_any h.sto)
  have H0 := Lib.hid h
  have HLC := Lib.hid (And.intro hl hc)
  have c2 := h.sto.row.read (i := 2) rfl
  obtain ⟨Dm, hown, hsz, hD⟩ := h.sto.mp2
  have HD := Lib.hid hD
  have HW := Lib.hid hown
  clear h hl hc hsz hD hown
  go_enter Try.func38, Try.ntmps38
  go_wp2_with (first
    | (go_at_call 88; (with_reducible refine HM.out.mono ?_); rintro e w1 ⟨rfl, rfl⟩)
    | (at_range; refine wpList_range_own _ rfl _ 133 rfl 3 144 lawM Try.underdm ptrElem m2 _ Dm rfl HW.out ?_; intro w0 hrg0 hg0 hs0; (have HRG := Lib.hid hrg0; have HG := Lib.hid hg0; clear hrg0 hg0 hs0))
    | go_in)
  go_frame
  have HB0 := Lib.hid (show Below w.heap.size w w0 from (Below.refl _ _).grown HG.out (Nat.le_refl _) (fun r hr => by cases hr))
  have hr0 : w.heap.size < w0.heap.size := HRG.out.lt
  go_loopw [3, 5] (fun s3 _ wr => ∃ (left : Lit → Bool) (c' : Nat) (nn : Int), s3 = .int .i64 nn ∧ Hid (wr.ranges Try.prog 3 ptrElem m2 w.heap.size (Maps.size Dm) Dm left c') ∧ Hid (Below w.heap.size w wr) ∧ Hid ((nn = 0 ∧ ∀ x, (Lit.int .i64 x).wf = true → left (.int .i64 x) = Maps.has Dm (.int .i64 x)) ∨ (nn = countF D ∧ ∀ x, (Lit.int .i64 x).wf = true → left (.int .i64 x) = false))) (fun _ _ wr => wr.rangeLeft m2 w.heap.size)
  case atStart => exact ⟨_, _, 0, rfl, HRG, HB0, Lib.hid (.inl ⟨rfl, fun _ _ => rfl⟩)⟩
  case round =>
    obtain ⟨left, c', nn, rfl, HR, HB, HS⟩ := hrel
    go_wp2_with (first
      | (at_next; refine wpList_next_ranges _ rfl _ rfl 3 lawM ptrElem (Value.int .i64) ptrV (fun key kl hkey => by obtain ⟨x, rfl, _⟩ := Maps.keyOf_int_inv Try.underlying3 hkey; exact ⟨x, rfl⟩) ptrElem_val m2 w.heap.size _ Dm left c' rfl HR.out ?_ ?_)
      | go_in)
    · intro hc0 hl0
      have hnn : nn = countF D := by
        rcases HS.out with ⟨h0, hx⟩ | ⟨h0, _⟩
        · have h1 := hx sn H0.out.wf
          rw [hl0, (HD.out sn H0.out.wf).1, if_pos rfl] at h1
          cases o with
          | none =>
            have hd : D = [] := H0.out.due
            rw [h0, hd]; rfl
          | some s => cases h1
        · exact h0
      rw [hnn]
      clear hc0 hl0 hnn
      go_wp2
      go_ret
      exact ⟨rfl, HB.out⟩
    · intro x c kl yd yp w' cnt' hkey hlk hv hat hrg hlt hgr hsz hen
      obtain ⟨x', ex, rfl, hwx⟩ := Maps.keyOf_int_inv Try.underlying3 hkey
      injection ex with _ ex
      subst ex
      obtain ⟨h0, hso⟩ : nn = 0 ∧ ∃ s, o = some s ∧ x = sn ∧ c = some s := by
        rcases HS.out with ⟨h0, hx⟩ | ⟨_, hx⟩
        · have h1 := hx x hwx
          rw [hlk, (HD.out x hwx).1] at h1
          by_cases hxs : x = sn
          · subst hxs
            rw [if_pos rfl] at h1
            cases o with
            | none => cases h1
            | some s =>
              have h2 := hat (ptrD none)
              rw [(HD.out x hwx).2, if_pos rfl] at h2
              rw [ptrElem_mk] at hv
              injection hv with hv
              injection hv with hv1 _
              subst hv1
              exact ⟨h0, s, rfl, rfl, (ptrD_inj h2).symm⟩
          · rw [if_neg hxs] at h1
            cases h1
        · rw [hx x hwx] at hlk; cases hlk
      obtain ⟨s, rfl, rfl, rfl⟩ := hso
      subst h0
      have HB1 := Lib.hid (HB.out.grown hgr HB.out.size (fun r hr => by injection hr with hr; omega))
      have H1 := Lib.hid (H0.out.later HB1.out)
      have HCN := Lib.hid (sit_count (show Sits B s D w' from H1.out.due) HLC.out.1)
      have HRG1 := Lib.hid hrg
      have HLT := Lib.hid hlt
      have HLF := Lib.hid (show wr.rangeLeft m2 w.heap.size = c' from HR.out.left_eq)
      have HLEFT : Hid (∀ z, (Lit.int .i64 z).wf = true → (left (.int .i64 z) && !(Lit.int .i64 z).sameKey (.int .i64 x)) = false) := by
        refine Lib.hid (fun z hz => ?_)
        by_cases hzx : z = x
        · subst hzx
          simp [Lit.sameKey]
        · rcases HS.out with ⟨_, hx⟩ | ⟨_, hx⟩
          · rw [hx z hz, (HD.out z hz).1, if_neg hzx]; rfl
          · rw [hx z hz]; rfl
      have hcb := HLC.out.2
      have hcp := (countF_pos (show Norm 0 D from (show Sits B s D w' from H1.out.due).2.2.1)).1
      clear hat hv hkey hlk hgr hsz hrg hlt HS
      unfold ptrV at hen
      simp only at hen
      unfold ptrV
      go_wp2_with (go_at_call 95; (with_reducible refine HCN.out.mono ?_); rintro e w5 ⟨rfl, hb⟩; (have HB5 := Lib.hid (bl_step HB1.out hb); have HR5 := Lib.hid (HRG1.out.kept (row := none) ⟨hb.os, hb.tape, hb.output, hb.size, fun i hi _ => hb.block i hi⟩ (by simp) (by simp)); clear hb))
      go_roundw
      case rel => exact ⟨_, _, countF D, by first | rfl | go_num, HR5, HB5, Lib.hid (.inr ⟨rfl, HLEFT.out⟩)⟩
      case measure => rw [HR5.out.left_eq, HLF.out]; exact HLT.out
end
end Go.Proofs.Ytdaipfmckonfpaa
namespace Go.Proofs.Ytdaipfmckonfpaa
open Go.RowKit Go.Maps

section
variable {B : Nat} {w v : World} {p m1 m2 : Nat} {wd fi sn off : Int} {poll last : Bool}
/-- what a packet that may be is like -/
theorem amd_facts {last : Bool} {fi sn off wd : Int} {ls : List Nat} (hz : 0 < amdF false last fi sn off ls wd) : ls.length ≤ 24 ∧ (∀ m ∈ ls, 0 < m ∧ m ≤ 1000000) ∧ ls.sum ≤ 4000 ∧ 0 < ls.sum ∧ okn wd sn = true ∧ (wd = 10 ∨ wd = 16) := by
  obtain ⟨hwd, hf0, hf3, hok1, _, hl1, hl24, hok, he⟩ := amdF_pos (Int.ne_of_gt hz)
  have hb := amdF_big false last fi sn off ls wd
  have h1 := sizeF_nonneg ((ls.length : Int) - 1) (lwA wd)
  have h2 := headA_nonneg false wd
  have hm : ∀ m ∈ ls, 0 < m ∧ m ≤ 1000000 := by
    intro m hm
    obtain ⟨k, hk⟩ := List.getElem?_of_mem hm
    have := okTo_small hok hk
    omega
  refine ⟨hl24, hm, by omega, ?_, hok1, hwd⟩
  cases ls with
  | nil => exact absurd hl1 (by decide)
  | cons a r => have := (hm a (by simp)).1; simp; omega
theorem one_put {A : Option Addr} {L : List RowB} (poll last : Bool) (fi sn off : Int) (n cap : Nat) (h : StoR w p m1 m2 wd 0 0 (fun _ => none) (fun _ => none)) (hB : B ≤ w.heap.size) (b1 : B ≤ m1) (b2 : B ≤ m2) (hL : L.length = n) (hs : RSrc w A L) (hz : 0 < amdF false last fi sn off (lens L) wd) (hwf : (Lit.int .i64 sn).wf = true) :
    Calls Try.prog 34 #[.pointer (some ⟨p, 0, none⟩), .agg #[.bool poll, .int .i64 fi, .int .i64 sn, .bool false, .bool last, .int .i64 off, .slice A n cap]] w fun e w' => e = .returned (.int .i64 0) ∧ ∃ g M, texts M = texts L ∧ OneR B w' p m1 m2 g wd fi sn poll last off M 0 none [] ∧ Below B w w' := by
  obtain ⟨h24, hm, hs4, _, _, _⟩ := amd_facts hz
  have hn : n ≤ 24 := by rw [← hL, ← length_lens]; exact h24
  refine (sput_ok poll last fi sn off n cap h hL (by omega) hs (fun m hm' => by have := hm m hm'; omega) hm hz hwf rfl (by omega)).mono ?_
  rintro e w' ⟨rfl, g, M, hM, ht, hg, hsto, hk, ho⟩
  have hln : lens M = lens L := by rw [lens_texts, ht, ← lens_texts]
  refine ⟨rfl, g, M, ht, ?_, ho.below hB (fun k hk e => by omega)⟩
  refine ⟨?_, ?_, rfl, b1, b2, Nat.le_trans hB hg, Nat.le_trans hB ho.size, hwf, by omega, by unfold dataN; rw [hln]; omega⟩
  · have e2 : (fun x : Int => if x = sn then (none : Option Nat) else none) = fun _ => none := by funext x; split <;> rfl
    rw [e2]
    exact hsto
  · obtain ⟨A', c, h1, h2⟩ := hk.row
    exact ⟨A', c, h1, h2.down hB⟩
end
end Go.Proofs.Ytdaipfmckonfpaa
namespace Go.Proofs.Ytdaipfmckonfpaa
open Go.RowKit Go.Maps

section
variable {w v : World} {p m1 m2 k1 k2 : Nat} {wd n : Int} {M1 M2 : Int → Option Nat}
set_option maxRecDepth 100000 in
set_option maxHeartbeats 1600000 in
theorem ssome_none (h : StoR w p m1 m2 wd k1 k2 M1 M2) (hn : (Lit.int .i64 n).wf = true) (hg : M1 n = none) (fr tq : Int) :
    Calls Try.prog 92 #[.pointer (some ⟨p, 0, none⟩), .int .i64 n, .int .i64 fr, .int .i64 tq] w fun e w' => e = .returned (.tuple #[.agg #[.int .i64 0, .int .i64 0], .int .i64 4]) ∧ Below w.heap.size w w' := by
  obtain ⟨ds, hds⟩ := undersp_parts
  have hb0 := bl_alloc (Below.refl w.heap.size w) (.cells #[.int .i64 0, .int .i64 0] 75)
  have HB0 := Lib.hid hb0
  have HRS := Lib.hid (Row.made w 75 #[.int .i64 0, .int .i64 0])
  have HMD := Lib.hid (smade_any (h.later hb0))
  have hf := sfind_any (n := n) (h.later hb0) hn
  rw [hg] at hf
  unfold ptrV at hf
  have HFD := Lib.hid hf
  clear h hf hb0
  have f0 := HRS.out.free 0
  have f1 := HRS.out.free 1
  have c0 := HRS.out.read (i := 0) rfl
  have c1 := HRS.out.read (i := 1) rfl
  go_enter Try.func92, Try.ntmps92
  go_wp2_with (first
    | (go_at_call 88; (with_reducible refine HMD.out.mono ?_); rintro e w1 ⟨rfl, rfl⟩)
    | (go_at_call 89; (with_reducible refine HFD.out.mono ?_); rintro e w1 ⟨rfl, rfl⟩))
  refine bodyPost_ret (sto_two rfl _ _ w.heap.size 75 #[.int .i64 0, .int .i64 0] ds rfl HRS.out hds Try.infosp) rfl ?_
  exact ⟨rfl, HB0.out⟩
set_option maxRecDepth 100000 in
set_option maxHeartbeats 1600000 in
theorem again_none (h : StoR w p m1 m2 wd k1 k2 M1 M2) (hn : (Lit.int .i64 n).wf = true) (hg : M1 n = none) (fr tq : Int) : Calls Try.prog 37 #[.pointer (some ⟨p, 0, none⟩), .int .i64 n, .int .i64 fr, .int .i64 tq] w fun e w' => e = .returned (.tuple #[.int .i64 0, .int .i64 4]) ∧ Below w.heap.size w w' := by
  have HS := Lib.hid (ssome_none h hn hg fr tq)
  clear h
  go_enter Try.func37, Try.ntmps37
  go_wp2_with (go_at_call 92; (with_reducible refine HS.out.mono ?_); rintro e w1 ⟨rfl, hb⟩; (have HB := Lib.hid hb; clear hb))
  go_ret2
  exact ⟨rfl, by first | exact bl_step HB.out (bl_alloc (Below.refl _ _) _) | exact HB.out⟩
end
end Go.Proofs.Ytdaipfmckonfpaa
