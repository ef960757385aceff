/-
  The document's cutter: Build, walked.
-/
import Derived.Test.YtjonkpdjhjobfaaJUmtxLives19
import Derived.Test.YtjonkpdjhjobfaaJUmtxLives12
namespace Go.Proofs.Ytjonkpdjhjobfaa
open Go.RowKit

def txR (ts : List Txt) (k : Nat) (n : Int) : List (Nat × List Nat × Bool) := if n ≤ 0 then tx (ts.drop k) else match ts[k]? with
  | some t => (t.id, t.bs.drop n.toNat, true) :: tx (ts.drop (k + 1))
  | none => []
/-- what the document's Build does that is not refused -/
def RCutDone (B y : Nat) (R : Int) (m : Nat) (ts : List Txt) (room x : Int) (w : World) (e : Ending) (w' : World) : Prop :=
  ∃ k n E', Bld room x (lenT ts) k n ∧ RQ w' y B R E' ∧ E'.length = m ∧ (∀ e ∈ E', ∀ b ∈ e.bs, b < 256) ∧ live 0 E' = txR ts k n ∧ KR X34 B w w' ∧
    ((k = 0 ∧ n ≤ 0 ∧ e = .returned (.tuple #[.agg #[.int .i64 0, .slice none 0 0, .slice none 0 0], .int .i64 4])) ∨
     ((0 < k ∨ 0 < n) ∧ ∃ A c D dc L, e = .returned (.tuple #[.agg #[.int .i64 (fiT ts n), .slice A L.length c, .slice D k dc], .int .i64 0]) ∧ texts L = fieldsT (ts.map Txt.bs) k n ∧ (RSrc w' A L ∧ w'.ownsRow w.heap.size 38 1 (.slice A L.length c) L.length (L.map RowB.v) ∧ ∀ r ∈ L, REnt w' r) ∧ L.length ≤ 100 ∧
        NewIds w.heap.size w' (.slice D k dc) ((ts.take k).map Txt.id)))
theorem Try.underrpc : (Try.prog.underlying 151).map (fun d => match d with | .struct _ => true | _ => false) = some true := by kernel_rfl
theorem underrpc_parts : ∃ fs, Try.prog.underlying 151 = some (.struct fs) := by
  obtain ⟨d, hd, h⟩ := Option.map_eq_some_iff.1 Try.underrpc
  cases d with
  | struct fs => exact ⟨fs, hd⟩
  | _ => simp at h
theorem Try.inforpcs : (Try.prog.info? 151).map (·.size) = some 3 := by kernel_rfl
section
variable {w v w0 : World} {y B p8 m : Nat} {R fi room x n : Int} {ts r : List Txt} {t : Txt} {E E' : List Ent} {L : List RowB} {A D : Option Addr} {k c dc : Nat}
theorem rcut_some (hB : Bld room x (lenT ts) k n) (hkn : 0 < k ∨ 0 < n) (hfi : fi = fiT ts n) (htx : texts L = fieldsT (ts.map Txt.bs) k n) (hlive : live 0 E' = txR ts k n) (hm : E'.length = m) {q : Nat} (hL : L.length = q) (hL2 : q ≤ 100)
    (hD : DC B y R w0 p8 fi (.slice A q c) (.slice D k dc) L ((ts.take k).map Txt.id) E' w) (ho : Only (fun k => k = w0.heap.size) w v) :
    RCutDone B y R m ts room x w0 (.returned (.tuple #[.agg #[.int .i64 fi, .slice A q c, .slice D k dc], .int .i64 0])) v := by
  subst hfi hL
  obtain ⟨h1, h2, h3, h4, h5⟩ := hD.close ho
  exact ⟨k, n, E', hB, h1, hm, hD.b8, hlive, h2, .inr ⟨hkn, A, c, D, dc, L, rfl, htx, ⟨rsrc_ent h4 h3, h4, h3⟩, hL2, h5⟩⟩
theorem rcut_none {F D : Value} {ids : List Nat} (hB : Bld room x (lenT ts) 0 n) (hn : n ≤ 0) (hlive : live 0 E' = tx (ts.drop 0)) (hm : E'.length = m)
    (hD : DC B y R w0 p8 fi F D L ids E' w) (ho : Only (fun k => k = w0.heap.size) w v) :
    RCutDone B y R m ts room x w0 (.returned (.tuple #[.agg #[.int .i64 0, .slice none 0 0, .slice none 0 0], .int .i64 4])) v := by
  obtain ⟨h1, h2, h3, h4, h5⟩ := hD.close ho
  exact ⟨0, n, E', hB, h1, hm, hD.b8, by rw [hlive]; unfold txR; rw [if_pos hn], h2, .inl ⟨rfl, hn, rfl⟩⟩
theorem only3 (w : World) (g : Nat) (a b c : Value) : Only (fun k => k = g) w (((w.setCell ⟨g, 0, none⟩ a).setCell ⟨g, 1, none⟩ b).setCell ⟨g, 2, none⟩ c) :=
  (((Only.refl (fun k => k = g) w).set (p := ⟨g, 0, none⟩) (.inl rfl) _).set (p := ⟨g, 1, none⟩) (.inl rfl) _).set (p := ⟨g, 2, none⟩) (.inl rfl) _
theorem txR_zero (hn : n ≤ 0) : txR ts k n = tx (ts.drop k) := by unfold txR; rw [if_pos hn]
theorem txR_some {q : Nat} (ht : ts[k]? = some t) (hq : 1 ≤ q) : txR ts k (q : Int) = (t.id, t.bs.drop q, true) :: tx (ts.drop (k + 1)) := by
  unfold txR
  rw [if_neg (by omega), ht]
  simp
theorem nextF_at (hk : k < 24) (hls : k ≤ ts.length) (l : Nat) : nextF l ((lenT ts).take k) room x = min (l : Int) (room - (((lenT ts).take k).sum : Int) - sizeF k x) := by
  have h1 : ((lenT ts).take k).length = k := by rw [List.length_take, length_lenT]; omega
  unfold nextF
  rw [if_neg (by omega), h1]
theorem nextF_end (hls : 24 ≤ ts.length) (l : Nat) : nextF l ((lenT ts).take 24) room x = 0 := by
  have h1 : ((lenT ts).take 24).length = 24 := by rw [List.length_take, length_lenT]; omega
  unfold nextF
  rw [if_pos (by omega)]
theorem fieldsT_zero (hn : n ≤ 0) (h : texts L = (ts.take k).map Txt.bs) : texts L = fieldsT (ts.map Txt.bs) k n := by
  unfold fieldsT
  rw [if_pos hn, List.append_nil, ← List.map_take, h]
theorem lenT_sum_succ (ht : ts[k]? = some t) : ((lenT ts).take (k + 1)).sum = ((lenT ts).take k).sum + t.bs.length := by
  rw [List.take_add_one, lenT_at ht]
  simp
theorem lenT_d (ht : ts[k]? = some t) : (lenT ts).getD k 0 = t.bs.length := by rw [List.getD_eq_getElem?_getD, lenT_at ht]; rfl
theorem lenT_d0 (h : ts.length ≤ k) : (lenT ts).getD k 0 = 0 := by rw [List.getD_eq_getElem?_getD, List.getElem?_eq_none (by rw [length_lenT]; omega)]; rfl
theorem headBg_0 (ht : ts[0]? = some t) : headBg ts = t.bg := by
  cases ts with
  | nil => simp at ht
  | cons a r => simp at ht; subst ht; rfl
end

theorem DC.ent_set {w w0 : World} {y B p8 : Nat} {R fi : Int} {F D : Value} {L : List RowB} {ids : List Nat} {E : List Ent} (h : DC B y R w0 p8 fi F D L ids E w) {r : RowB} (hr : REnt w r) (i : Nat) (x : Value) : REnt (w.setCell ⟨p8, i, none⟩ x) r :=
  hr.only ((Only.refl (fun k => k = p8) w).set (p := ⟨p8, i, none⟩) (.inl rfl) _) (fun g cs hc e => by subst e; exact absurd (qlrow_same hc h.prow) (by decide))
theorem fiT_more {ts : List Txt} {t : Txt} {k : Nat} {fi n : Int} (ht : ts[k]? = some t) (hfi : fi = (if k = 0 then 0 else if headBg ts then 2 else 0)) (hn : 0 < n) (hb : t.bg = true → k = 0 → False) : fi + 1 = fiT ts n := by
  rcases Nat.eq_zero_or_pos k with h | h
  · subst h
    have h1 := headBg_0 ht
    have h2 : t.bg = false := by cases hh : t.bg; rfl; exact absurd rfl (fun e => hb hh e)
    rw [h2] at h1
    rw [fiT_pos h1 hn, hfi]
    simp
  · rw [fiT_pos rfl hn, hfi, if_neg (by omega)]
theorem fi_next {ts : List Txt} {t : Txt} {k : Nat} {fi : Int} (ht : ts[k]? = some t) (hfi : fi = (if k = 0 then 0 else if headBg ts then 2 else 0)) (hb : t.bg = true → k = 0 → False) : fi = (if k + 1 = 0 then 0 else if headBg ts then 2 else 0) := by
  rw [if_neg (by omega)]
  rcases Nat.eq_zero_or_pos k with h | h
  · subst h
    have h1 := headBg_0 ht
    have h2 : t.bg = false := by cases hh : t.bg; rfl; exact absurd rfl (fun e => hb hh e)
    rw [h2] at h1
    rw [hfi, h1]
    simp
  · rw [hfi, if_neg (by omega)]
set_option maxRecDepth 100000 in
set_option maxHeartbeats 25600000 in
theorem rcut_11 {w : World} {y B : Nat} {R : Int} {ts : List Txt} {E : List Ent} (room : Int) (h : RQ w y B R E) (hl : tx ts = live 0 E) (hB : B ≤ w.heap.size) (h8 : ∀ e ∈ E, ∀ b ∈ e.bs, b < 256) (hr0 : 0 ≤ room) (hr1 : room ≤ 4000) :
    Calls Try.prog 93 #[.pointer (some ⟨y, 0, none⟩), .int .i64 room, .int .i64 11] w (RCutDone B y R E.length ts room 11 w) := by
  have hb0 := bl_alloc (Below.refl w.heap.size w) (.cells #[.int .i64 0, .slice none 0 0, .slice none 0 0] 151)
  have hb1 := bl_alloc hb0 (.cells #[.int .i64 0, .slice none 0 0, .slice none 0 0] 151)
  have HSZ := Lib.hid (fun (k : Int) (W : World) => refsize_any k 11 W)
  have hD0 : DC B y R w (w.heap.size + 1) 0 (.slice none 0 0) (.slice none 0 0) [] [] E ((w.alloc (.cells #[.int .i64 0, .slice none 0 0, .slice none 0 0] 151)).alloc (.cells #[.int .i64 0, .slice none 0 0, .slice none 0 0] 151)) := by
    refine ⟨h.later hb1, (h.low).kr (X := X34) (KR.of_below hB hb1) not34.2.2.2.2, h8, KR.of_below hB hb1, World.ownsRow_nil _ _ _ _, (fun r hr => by cases hr), World.ownsRow_nil _ _ _ _, (Row.made w _ _).more _, ?_, by omega⟩
    have h9 := Row.made (w.alloc (.cells #[.int .i64 0, .slice none 0 0, .slice none 0 0] 151)) 151 #[.int .i64 0, .slice none 0 0, .slice none 0 0]
    rw [show (w.alloc (.cells #[.int .i64 0, .slice none 0 0, .slice none 0 0] 151)).heap.size = w.heap.size + 1 by simp] at h9
    exact h9
  have HD0 := Lib.hid hD0
  have HL0 := Lib.hid hl
  have HR0 := Lib.hid (And.intro hr0 hr1)
  have hr2 : ¬ room < 0 := by omega
  have hr3 : ¬ 4000 < room := by omega
  clear hD0 h h8 hb0 hb1 hl
  go_enter Try.func93, Try.ntmps93
  go_wp2
  generalize hW : (w.alloc (.cells #[.int .i64 0, .slice none 0 0, .slice none 0 0] 151)).alloc (.cells #[.int .i64 0, .slice none 0 0, .slice none 0 0] 151) = W2 at *
  clear hW
  go_loopw [9] (fun s9 wr => ∃ (k used : Nat) (fi : Int) (A : Option Addr) (c : Nat) (D : Option Addr) (dc : Nat) (L : List RowB) (E' : List Ent), k ≤ 24 ∧ k ≤ ts.length ∧ s9 = .int .i64 used ∧ used ≤ 4000 ∧ k ≤ used ∧ Hid (((lenT ts).take k).sum = used) ∧ Hid (fi = (if k = 0 then 0 else if headBg ts then 2 else 0)) ∧ Hid (L.length = k) ∧
      Hid (DC B y R w (w.heap.size + 1) fi (.slice A k c) (.slice D k dc) L ((ts.take k).map Txt.id) E' wr) ∧ Hid (texts L = (ts.take k).map Txt.bs) ∧ Hid (live 0 E' = tx (ts.drop k)) ∧ Hid (E'.length = E.length) ∧ Hid (∀ i l, i < k → (lenT ts)[i]? = some l → nextF l ((lenT ts).take i) room 11 = l)) (fun s9 _ => 4000 - (intOf s9).toNat)
  case atStart => exact ⟨0, 0, 0, none, 0, none, 0, [], E, by omega, by omega, rfl, by omega, by omega, Lib.hid (by simp), Lib.hid (by simp), Lib.hid rfl, HD0, Lib.hid (by simp [texts]), Lib.hid HL0.out.symm, Lib.hid rfl, Lib.hid (fun i l hi => by omega)⟩
  case round =>
    obtain ⟨k, used, fi, A, c, D, dc, L, E', hk, hkl, rfl, hu, hku, HUS, HFI, HLK, HI, HTX, HLV, HEL, HWH⟩ := hrel
    have HKL := Lib.hid hkl
    have p0 := HI.out.prow.read (i := 0) (x := .int .i64 fi) rfl
    have p1 := HI.out.prow.read (i := 1) (x := .slice A k c) rfl
    have p2 := HI.out.prow.read (i := 2) (x := .slice D k dc) rfl
    have p0f := HI.out.prow.free 0
    have p1f := HI.out.prow.free 1
    have p2f := HI.out.prow.free 2
    have g0 := HI.out.res.free 0
    have g1 := HI.out.res.free 1
    have g2 := HI.out.res.free 2
    have d0 := HI.out.res.read (i := 0) (x := .int .i64 0) rfl
    have d1 := HI.out.res.read (i := 1) (x := .slice none 0 0) rfl
    have d2 := HI.out.res.read (i := 2) (x := .slice none 0 0) rfl
    rcases Nat.lt_or_ge k 24 with hk24 | hk24
    · have hki : (k : Int) < 24 := by omega
      obtain ⟨z, hz⟩ : ∃ z, sizeF k 11 = z := ⟨_, rfl⟩
      have hzb := sizeF_nonneg (k : Int) 11
      rw [hz] at hzb
      have HZ0 := Lib.hid (fun W => HSZ.out (k : Int) W)
      rw [hz] at HZ0
      have HZZ := Lib.hid hz
      obtain ⟨lf, hlf⟩ : ∃ lf : Int, room - used - z = lf := ⟨_, rfl⟩
      have hw1 : IntKind.i64.wrap (room - (used : Int)) = room - used := by rw [IntWalk.i64_in _ (by omega)]
      have hw2 : IntKind.i64.wrap (room - (used : Int) - z) = lf := by rw [IntWalk.i64_in _ (by omega)]; exact hlf
      have HNX := Lib.hid (fun (l : Nat) => (show nextF l ((lenT ts).take k) room 11 = min (l : Int) lf by rw [nextF_at hk24 HKL.out, HUS.out, HZZ.out, hlf]))
      clear hz
      rcases Nat.lt_or_ge k ts.length with hlt | hge
      · obtain ⟨t, ht⟩ : ∃ t, ts[k]? = some t := ⟨_, List.getElem?_eq_getElem hlt⟩
        have hd : ts.drop k = t :: ts.drop (k + 1) := by
          rw [List.drop_eq_getElem_cons hlt]
          obtain ⟨_, e⟩ := List.getElem?_eq_some_iff.1 ht
          rw [e]
        obtain ⟨e, he⟩ := head_of (r := ts.drop (k + 1)) (E := E') (t := t) (by rw [← hd]; exact HLV.out.symm)
        have HH := Lib.hid he
        obtain ⟨hb1, hb2, hb3, hb4⟩ := he.bounds HI.out.q
        have HFR := Lib.hid (dq_front HI.out.q he)
        have hidz : ((t.id : Int) == 0) = false := by have := he.id; simp; omega
        have HT := Lib.hid ht
        have HTS := Lib.hid (show ts.take (k + 1) = ts.take k ++ [t] by rw [List.take_add_one, ht]; rfl)
        have HIL := Lib.hid (show ((ts.take k).map Txt.id).length = k by rw [List.length_map, List.length_take]; omega)
        clear hd he ht
        rcases Int.lt_or_le lf 1 with hl1 | hl1
        · have HBL := Lib.hid (show Bld room 11 (lenT ts) k (nextF t.bs.length ((lenT ts).take k) room 11) from ⟨by rw [length_lenT]; omega, HWH.out, by rw [lenT_d HT.out], .inl (by rw [HNX.out]; omega)⟩)
          have HN0 := Lib.hid (show nextF t.bs.length ((lenT ts).take k) room 11 ≤ 0 by rw [HNX.out]; omega)
          generalize nextF t.bs.length ((lenT ts).take k) room 11 = n at HBL HN0
          rcases Nat.eq_zero_or_pos k with hk0 | hk0
          · subst hk0
            have HZ0 : Hid (∀ W : World, Calls Try.prog 169 #[.int .i64 0, .int .i64 11] W fun e w' => e = .returned (.int .i64 z) ∧ W = w') := HZ0
            go_wp2_with (first
              | (go_at_call 168; (with_reducible refine HFR.out.mono ?_); rintro e' w1 ⟨rfl, hb1⟩; (
                  have HE1 := Lib.hid (HI.out.later hb1)
                  clear p0 p1 p2 p0f p1f p2f g0 g1 g2 d0 d1 d2 hb1
                  have p0 := HE1.out.prow.read (i := 0) (x := .int .i64 fi) rfl
                  have p1 := HE1.out.prow.read (i := 1) (x := .slice A 0 c) rfl
                  have p2 := HE1.out.prow.read (i := 2) (x := .slice D 0 dc) rfl
                  have p0f := HE1.out.prow.free 0
                  have p1f := HE1.out.prow.free 1
                  have p2f := HE1.out.prow.free 2
                  have g0 := HE1.out.res.free 0
                  have g1 := HE1.out.res.free 1
                  have g2 := HE1.out.res.free 2
                  have d0 := HE1.out.res.read (i := 0) (x := .int .i64 0) rfl
                  have d1 := HE1.out.res.read (i := 1) (x := .slice none 0 0) rfl
                  have d2 := HE1.out.res.read (i := 2) (x := .slice none 0 0) rfl))
              | (go_at_call 169; (with_reducible refine (HZ0.out _).mono ?_); rintro e _ ⟨rfl, rfl⟩))
            try simp only [Exit.jump]
            obtain ⟨d24, hu24⟩ := underrpc_parts
            refine bodyPost_ret (results_two rfl _ _ w.heap.size 151 #[.int .i64 0, .slice none 0 0, .slice none 0 0] d24 rfl (((HE1.out.res.written 0 (.int .i64 0)).written 1 (.slice none 0 0)).written 2 (.slice none 0 0)) hu24 Try.inforpcs) rfl ?_
            exact rcut_none HBL.out HN0.out HLV.out HEL.out HE1.out (only3 _ _ _ _ _)
          · have hkz : ((k : Int) == 0) = false := by simp; omega
            go_wp2_with (first
              | (go_at_call 168; (with_reducible refine HFR.out.mono ?_); rintro e' w1 ⟨rfl, hb1⟩; (
                  have HE1 := Lib.hid (HI.out.later hb1)
                  clear p0 p1 p2 p0f p1f p2f g0 g1 g2 d0 d1 d2 hb1
                  have p0 := HE1.out.prow.read (i := 0) (x := .int .i64 fi) rfl
                  have p1 := HE1.out.prow.read (i := 1) (x := .slice A k c) rfl
                  have p2 := HE1.out.prow.read (i := 2) (x := .slice D k dc) rfl
                  have p0f := HE1.out.prow.free 0
                  have p1f := HE1.out.prow.free 1
                  have p2f := HE1.out.prow.free 2
                  have g0 := HE1.out.res.free 0
                  have g1 := HE1.out.res.free 1
                  have g2 := HE1.out.res.free 2
                  have d0 := HE1.out.res.read (i := 0) (x := .int .i64 0) rfl
                  have d1 := HE1.out.res.read (i := 1) (x := .slice none 0 0) rfl
                  have d2 := HE1.out.res.read (i := 2) (x := .slice none 0 0) rfl))
              | (go_at_call 169; (with_reducible refine (HZ0.out _).mono ?_); rintro e _ ⟨rfl, rfl⟩))
            try simp only [Exit.jump]
            obtain ⟨d24, hu24⟩ := underrpc_parts
            refine bodyPost_ret (results_two rfl _ _ w.heap.size 151 #[.int .i64 fi, .slice A k c, .slice D k dc] d24 rfl (((HE1.out.res.written 0 (.int .i64 fi)).written 1 (.slice A k c)).written 2 (.slice D k dc)) hu24 Try.inforpcs) rfl ?_
            exact rcut_some HBL.out (.inl hk0) (by rw [fiT_zero rfl HN0.out, HFI.out, if_neg (by omega)]) (fieldsT_zero HN0.out HTX.out) (by rw [HLV.out, txR_zero HN0.out]) HEL.out HLK.out (by omega) HE1.out (only3 _ _ _ _ _)
        · have hl2 : ¬ lf < 1 := by omega
          rcases Int.lt_or_le lf t.bs.length with hl3 | hl3
          · obtain ⟨nn, rfl⟩ : ∃ nn : Nat, lf = nn := ⟨lf.toNat, by omega⟩
            have hn1 : 1 ≤ nn := by omega
            have hn2 : nn < t.bs.length := by omega
            have HTN := Lib.hid (show (t.bs.take nn).length = nn by rw [List.length_take]; omega)
            have HBL := Lib.hid (show Bld room 11 (lenT ts) k (nn : Int) from ⟨by rw [length_lenT]; omega, HWH.out, by rw [lenT_d HT.out, HNX.out]; omega, .inr ⟨by rw [length_lenT]; omega, by rw [lenT_d HT.out]; omega⟩⟩)
            have hkz1 : (((k + 1 : Nat) : Int) == 0) = false := by simp; omega
            have hkz2 : ((k : Int) + 1 == 0) = false := by simp; omega
            by_cases hbk : t.bg = true ∧ k = 0
            · obtain ⟨hbg, hk0⟩ := hbk
              subst hk0
              have HZ0 : Hid (∀ W : World, Calls Try.prog 169 #[.int .i64 0, .int .i64 11] W fun e w' => e = .returned (.int .i64 z) ∧ W = w') := HZ0
              rw [hbg] at HFR
              go_wp2_with (first
                | (go_at_call 168; (with_reducible refine HFR.out.mono ?_); rintro e' w1 ⟨rfl, hb1⟩; (
                    have HE1 := Lib.hid (HI.out.later hb1)
                    have HTK := Lib.hid (dq_some nn HE1.out.q HE1.out.base.1 HE1.out.b8 HH.out hn1 hn2)
                    have HRE := Lib.hid (HH.out.ent HE1.out.q HE1.out.b8 nn (Nat.le_of_lt hn2))
                    clear p0 p1 p2 p0f p1f p2f g0 g1 g2 d0 d1 d2 hb1
                    have p0 := HE1.out.prow.read (i := 0) (x := .int .i64 fi) rfl
                    have p1 := HE1.out.prow.read (i := 1) (x := .slice A 0 c) rfl
                    have p2 := HE1.out.prow.read (i := 2) (x := .slice D 0 dc) rfl
                    have p0f := HE1.out.prow.free 0
                    have p1f := HE1.out.prow.free 1
                    have p2f := HE1.out.prow.free 2))
                | (go_at_call 169; (with_reducible refine (HZ0.out _).mono ?_); rintro e _ ⟨rfl, rfl⟩)
                | (go_at_call 170; (with_reducible refine HTK.out.mono ?_); rintro e' w4 ⟨rfl, hk4, E4, hq4, hm4, h84, hl4⟩; (
                    have HI4 := Lib.hid (HE1.out.step hk4 hq4 h84)
                    have HM4 := Lib.hid (hm4.trans HEL.out)
                    have HL4 := Lib.hid hl4
                    have hre := HRE.out.kr hk4 not34.2.2.1
                    clear hk4 hq4 hm4 h84 hl4 p0 p1 p2 p0f p1f p2f
                    have p0 := HI4.out.prow.read (i := 0) (x := .int .i64 fi) rfl
                    have p1 := HI4.out.prow.read (i := 1) (x := .slice A 0 c) rfl
                    have p2 := HI4.out.prow.read (i := 2) (x := .slice D 0 dc) rfl
                    have p0f := HI4.out.prow.free 0
                    have p1f := HI4.out.prow.free 1
                    have p2f := HI4.out.prow.free 2
                    have hre2 := HI4.out.ent_set hre 0 (.int .i64 2)
                    have HI5 := Lib.hid (HI4.out.setfi 2)
                    have x0 := HI5.out.prow.read (i := 0) (x := .int .i64 2) rfl
                    have x1 := HI5.out.prow.read (i := 1) (x := .slice A 0 c) rfl
                    have x2 := HI5.out.prow.read (i := 2) (x := .slice D 0 dc) rfl
                    have x0f := HI5.out.prow.free 0
                    have x1f := HI5.out.prow.free 1
                    have x2f := HI5.out.prow.free 2
                    obtain ⟨A5, c5, w5, hrun5, hr5, hi5⟩ := HI5.out.addRow ⟨some ⟨e.g, e.tk, none⟩, e.c - e.tk, t.bs.take nn⟩ (by rw [HLK.out]; omega) hre2
                    unfold RowB.v at hrun5
                    rw [show (w4.setCell ⟨w.heap.size + 1, 0, none⟩ (.int .i64 2)).heap.size = w4.heap.size by simp] at hrun5
                    rw [HLK.out] at hrun5 hi5
                    simp only [HTN.out] at hrun5
                    have HI6 := Lib.hid hi5
                    have y0 := hr5.read (i := 0) (x := .int .i64 2) rfl
                    have y0f := hr5.free 0
                    have y1f := hr5.free 1
                    have y1 := hr5.read (i := 1) (x := .slice A 0 c) rfl
                    have y2 := hr5.read (i := 2) (x := .slice D 0 dc) rfl
                    have z0 := HI6.out.prow.read (i := 0) (x := .int .i64 2) rfl
                    have z0f := HI6.out.prow.free 0
                    have HI7 := Lib.hid (HI6.out.setfi (3))
                    have e0 := HI7.out.prow.read (i := 0) (x := .int .i64 3) rfl
                    have e1 := HI7.out.prow.read (i := 1) (x := .slice A5 (0 + 1) c5) rfl
                    have e2 := HI7.out.prow.read (i := 2) (x := .slice D 0 dc) rfl
                    have e0f := HI7.out.prow.free 0
                    have e1f := HI7.out.prow.free 1
                    have e2f := HI7.out.prow.free 2
                    have h0 := HI7.out.res.free 0
                    have h1 := HI7.out.res.free 1
                    have h2 := HI7.out.res.free 2
                    have k0 := HI7.out.res.read (i := 0) (x := .int .i64 0) rfl
                    have k1 := HI7.out.res.read (i := 1) (x := .slice none 0 0) rfl
                    have k2 := HI7.out.res.read (i := 2) (x := .slice none 0 0) rfl
                    clear hi5 hr5 hre hre2))
                | (at_builtin; refine wpList_is rfl (.tmp 80) (.tmp 82) 48 rfl _ _ (by rfl) (by rfl) hrun5 ?_))
              try simp only [Exit.jump]
              obtain ⟨d24, hu24⟩ := underrpc_parts
              refine bodyPost_ret (results_two rfl _ _ w.heap.size 151 #[.int .i64 3, .slice A5 (0 + 1) c5, .slice D 0 dc] d24 rfl (((HI7.out.res.written 0 (.int .i64 3)).written 1 (.slice A5 (0 + 1) c5)).written 2 (.slice D 0 dc)) hu24 Try.inforpcs) rfl ?_
              refine rcut_some HBL.out (.inr (by omega)) (by rw [fiT_pos (by rw [headBg_0 HT.out, hbg]) (show (0 : Int) < nn by omega)]; rfl) ?_ (by rw [HL4.out, txR_some HT.out hn1]) HM4.out (by rw [List.length_append, HLK.out]; rfl) (by omega) HI7.out (only3 _ _ _ _ _)
              unfold fieldsT
              rw [if_neg (by omega), ← List.map_take, ← HTX.out, List.getD_eq_getElem?_getD, List.getElem?_map, HT.out]
              simp [texts]
            · have HNB := Lib.hid (show t.bg = true → k = 0 → False from fun a b => hbk ⟨a, b⟩)
              have hwf : IntKind.i64.wrap (fi + 1) = fi + 1 := by rw [IntWalk.i64_in _ (by have := HFI.out; split at this; omega; split at this <;> omega)]
              clear hbk
              cases hbg : t.bg
              · rw [hbg] at HFR
                go_wp2_with (first
                  | (go_at_call 168; (with_reducible refine HFR.out.mono ?_); rintro e' w1 ⟨rfl, hb1⟩; (
                      have HE1 := Lib.hid (HI.out.later hb1)
                      have HTK := Lib.hid (dq_some nn HE1.out.q HE1.out.base.1 HE1.out.b8 HH.out hn1 hn2)
                      have HRE := Lib.hid (HH.out.ent HE1.out.q HE1.out.b8 nn (Nat.le_of_lt hn2))
                      clear p0 p1 p2 p0f p1f p2f g0 g1 g2 d0 d1 d2 hb1
                      have p0 := HE1.out.prow.read (i := 0) (x := .int .i64 fi) rfl
                      have p1 := HE1.out.prow.read (i := 1) (x := .slice A k c) rfl
                      have p2 := HE1.out.prow.read (i := 2) (x := .slice D k dc) rfl
                      have p0f := HE1.out.prow.free 0
                      have p1f := HE1.out.prow.free 1
                      have p2f := HE1.out.prow.free 2))
                  | (go_at_call 169; (with_reducible refine (HZ0.out _).mono ?_); rintro e _ ⟨rfl, rfl⟩)
                  | (go_at_call 170; (with_reducible refine HTK.out.mono ?_); rintro e' w4 ⟨rfl, hk4, E4, hq4, hm4, h84, hl4⟩; (
                      have HI4 := Lib.hid (HE1.out.step hk4 hq4 h84)
                      have HM4 := Lib.hid (hm4.trans HEL.out)
                      have HL4 := Lib.hid hl4
                      have hre := HRE.out.kr hk4 not34.2.2.1
                      clear hk4 hq4 hm4 h84 hl4 p0 p1 p2 p0f p1f p2f
                      have p0 := HI4.out.prow.read (i := 0) (x := .int .i64 fi) rfl
                      have p1 := HI4.out.prow.read (i := 1) (x := .slice A k c) rfl
                      have p2 := HI4.out.prow.read (i := 2) (x := .slice D k dc) rfl
                      have p0f := HI4.out.prow.free 0
                      have p1f := HI4.out.prow.free 1
                      have p2f := HI4.out.prow.free 2
                      have hre2 := hre
                      have HI5 := HI4
                      obtain ⟨A5, c5, w5, hrun5, hr5, hi5⟩ := HI5.out.addRow ⟨some ⟨e.g, e.tk, none⟩, e.c - e.tk, t.bs.take nn⟩ (by rw [HLK.out]; omega) hre2
                      unfold RowB.v at hrun5
                      rw [HLK.out] at hrun5 hi5
                      simp only [HTN.out] at hrun5
                      have HI6 := Lib.hid hi5
                      have y0 := hr5.read (i := 0) (x := .int .i64 fi) rfl
                      have y0f := hr5.free 0
                      have y1f := hr5.free 1
                      have y1 := hr5.read (i := 1) (x := .slice A k c) rfl
                      have y2 := hr5.read (i := 2) (x := .slice D k dc) rfl
                      have z0 := HI6.out.prow.read (i := 0) (x := .int .i64 fi) rfl
                      have z0f := HI6.out.prow.free 0
                      have HI7 := Lib.hid (HI6.out.setfi (fi + 1))
                      have e0 := HI7.out.prow.read (i := 0) (x := .int .i64 (fi + 1)) rfl
                      have e1 := HI7.out.prow.read (i := 1) (x := .slice A5 (k + 1) c5) rfl
                      have e2 := HI7.out.prow.read (i := 2) (x := .slice D k dc) rfl
                      have e0f := HI7.out.prow.free 0
                      have e1f := HI7.out.prow.free 1
                      have e2f := HI7.out.prow.free 2
                      have h0 := HI7.out.res.free 0
                      have h1 := HI7.out.res.free 1
                      have h2 := HI7.out.res.free 2
                      have k0 := HI7.out.res.read (i := 0) (x := .int .i64 0) rfl
                      have k1 := HI7.out.res.read (i := 1) (x := .slice none 0 0) rfl
                      have k2 := HI7.out.res.read (i := 2) (x := .slice none 0 0) rfl
                      clear hi5 hr5 hre hre2))
                  | (at_builtin; refine wpList_is rfl (.tmp 80) (.tmp 82) 48 rfl _ _ (by rfl) (by rfl) hrun5 ?_))
                try simp only [Exit.jump]
                obtain ⟨d24, hu24⟩ := underrpc_parts
                refine bodyPost_ret (results_two rfl _ _ w.heap.size 151 #[.int .i64 (fi + 1), .slice A5 (k + 1) c5, .slice D k dc] d24 rfl (((HI7.out.res.written 0 (.int .i64 (fi + 1))).written 1 (.slice A5 (k + 1) c5)).written 2 (.slice D k dc)) hu24 Try.inforpcs) rfl ?_
                refine rcut_some HBL.out (.inr (by omega)) (fiT_more HT.out HFI.out (by omega) HNB.out) ?_ (by rw [HL4.out, txR_some HT.out hn1]) HM4.out (by rw [List.length_append, HLK.out]; rfl) (by omega) HI7.out (only3 _ _ _ _ _)
                unfold fieldsT
                rw [if_neg (by omega), ← List.map_take, ← HTX.out, List.getD_eq_getElem?_getD, List.getElem?_map, HT.out]
                simp [texts]
              · have hkz : ((k : Int) == 0) = false := by have := HNB.out hbg; simp; omega
                rw [hbg] at HFR
                go_wp2_with (first
                  | (go_at_call 168; (with_reducible refine HFR.out.mono ?_); rintro e' w1 ⟨rfl, hb1⟩; (
                      have HE1 := Lib.hid (HI.out.later hb1)
                      have HTK := Lib.hid (dq_some nn HE1.out.q HE1.out.base.1 HE1.out.b8 HH.out hn1 hn2)
                      have HRE := Lib.hid (HH.out.ent HE1.out.q HE1.out.b8 nn (Nat.le_of_lt hn2))
                      clear p0 p1 p2 p0f p1f p2f g0 g1 g2 d0 d1 d2 hb1
                      have p0 := HE1.out.prow.read (i := 0) (x := .int .i64 fi) rfl
                      have p1 := HE1.out.prow.read (i := 1) (x := .slice A k c) rfl
                      have p2 := HE1.out.prow.read (i := 2) (x := .slice D k dc) rfl
                      have p0f := HE1.out.prow.free 0
                      have p1f := HE1.out.prow.free 1
                      have p2f := HE1.out.prow.free 2))
                  | (go_at_call 169; (with_reducible refine (HZ0.out _).mono ?_); rintro e _ ⟨rfl, rfl⟩)
                  | (go_at_call 170; (with_reducible refine HTK.out.mono ?_); rintro e' w4 ⟨rfl, hk4, E4, hq4, hm4, h84, hl4⟩; (
                      have HI4 := Lib.hid (HE1.out.step hk4 hq4 h84)
                      have HM4 := Lib.hid (hm4.trans HEL.out)
                      have HL4 := Lib.hid hl4
                      have hre := HRE.out.kr hk4 not34.2.2.1
                      clear hk4 hq4 hm4 h84 hl4 p0 p1 p2 p0f p1f p2f
                      have p0 := HI4.out.prow.read (i := 0) (x := .int .i64 fi) rfl
                      have p1 := HI4.out.prow.read (i := 1) (x := .slice A k c) rfl
                      have p2 := HI4.out.prow.read (i := 2) (x := .slice D k dc) rfl
                      have p0f := HI4.out.prow.free 0
                      have p1f := HI4.out.prow.free 1
                      have p2f := HI4.out.prow.free 2
                      have hre2 := hre
                      have HI5 := HI4
                      obtain ⟨A5, c5, w5, hrun5, hr5, hi5⟩ := HI5.out.addRow ⟨some ⟨e.g, e.tk, none⟩, e.c - e.tk, t.bs.take nn⟩ (by rw [HLK.out]; omega) hre2
                      unfold RowB.v at hrun5
                      rw [HLK.out] at hrun5 hi5
                      simp only [HTN.out] at hrun5
                      have HI6 := Lib.hid hi5
                      have y0 := hr5.read (i := 0) (x := .int .i64 fi) rfl
                      have y0f := hr5.free 0
                      have y1f := hr5.free 1
                      have y1 := hr5.read (i := 1) (x := .slice A k c) rfl
                      have y2 := hr5.read (i := 2) (x := .slice D k dc) rfl
                      have z0 := HI6.out.prow.read (i := 0) (x := .int .i64 fi) rfl
                      have z0f := HI6.out.prow.free 0
                      have HI7 := Lib.hid (HI6.out.setfi (fi + 1))
                      have e0 := HI7.out.prow.read (i := 0) (x := .int .i64 (fi + 1)) rfl
                      have e1 := HI7.out.prow.read (i := 1) (x := .slice A5 (k + 1) c5) rfl
                      have e2 := HI7.out.prow.read (i := 2) (x := .slice D k dc) rfl
                      have e0f := HI7.out.prow.free 0
                      have e1f := HI7.out.prow.free 1
                      have e2f := HI7.out.prow.free 2
                      have h0 := HI7.out.res.free 0
                      have h1 := HI7.out.res.free 1
                      have h2 := HI7.out.res.free 2
                      have k0 := HI7.out.res.read (i := 0) (x := .int .i64 0) rfl
                      have k1 := HI7.out.res.read (i := 1) (x := .slice none 0 0) rfl
                      have k2 := HI7.out.res.read (i := 2) (x := .slice none 0 0) rfl
                      clear hi5 hr5 hre hre2))
                  | (at_builtin; refine wpList_is rfl (.tmp 80) (.tmp 82) 48 rfl _ _ (by rfl) (by rfl) hrun5 ?_))
                try simp only [Exit.jump]
                obtain ⟨d24, hu24⟩ := underrpc_parts
                refine bodyPost_ret (results_two rfl _ _ w.heap.size 151 #[.int .i64 (fi + 1), .slice A5 (k + 1) c5, .slice D k dc] d24 rfl (((HI7.out.res.written 0 (.int .i64 (fi + 1))).written 1 (.slice A5 (k + 1) c5)).written 2 (.slice D k dc)) hu24 Try.inforpcs) rfl ?_
                refine rcut_some HBL.out (.inr (by omega)) (fiT_more HT.out HFI.out (by omega) HNB.out) ?_ (by rw [HL4.out, txR_some HT.out hn1]) HM4.out (by rw [List.length_append, HLK.out]; rfl) (by omega) HI7.out (only3 _ _ _ _ _)
                unfold fieldsT
                rw [if_neg (by omega), ← List.map_take, ← HTX.out, List.getD_eq_getElem?_getD, List.getElem?_map, HT.out]
                simp [texts]
          · have hl4 : ¬ (lf < (t.bs.length : Int)) := by omega
            have HWN := Lib.hid (show ∀ i l, i < k + 1 → (lenT ts)[i]? = some l → nextF l ((lenT ts).take i) room 11 = l from fun i l hi hl => by
              rcases Nat.lt_or_ge i k with h9 | h9
              · exact HWH.out i l h9 hl
              · obtain rfl : i = k := by omega
                rw [lenT_at HT.out] at hl
                injection hl with hl
                rw [← hl, HNX.out]
                omega)
            have hwu : IntKind.i64.wrap ((used : Int) + (t.bs.length : Int)) = ((used + t.bs.length : Nat) : Int) := by rw [IntWalk.i64_in _ (by omega)]; omega
            by_cases hbk : t.bg = true ∧ k = 0
            · obtain ⟨hbg, hk0⟩ := hbk
              subst hk0
              have HZ0 : Hid (∀ W : World, Calls Try.prog 169 #[.int .i64 0, .int .i64 11] W fun e w' => e = .returned (.int .i64 z) ∧ W = w') := HZ0
              rw [hbg] at HFR
              go_wp2_with (first
                | (go_at_call 168; (with_reducible refine HFR.out.mono ?_); rintro e' w1 ⟨rfl, hb1⟩; (
                    have HE1 := Lib.hid (HI.out.later hb1)
                    have HTK := Lib.hid (dq_all HE1.out.q HE1.out.base.1 HE1.out.b8 HH.out)
                    have HRE := Lib.hid (HH.out.ent HE1.out.q HE1.out.b8 t.bs.length (Nat.le_refl _))
                    clear p0 p1 p2 p0f p1f p2f g0 g1 g2 d0 d1 d2 hb1
                    have p0 := HE1.out.prow.read (i := 0) (x := .int .i64 fi) rfl
                    have p1 := HE1.out.prow.read (i := 1) (x := .slice A 0 c) rfl
                    have p2 := HE1.out.prow.read (i := 2) (x := .slice D 0 dc) rfl
                    have p0f := HE1.out.prow.free 0
                    have p1f := HE1.out.prow.free 1
                    have p2f := HE1.out.prow.free 2))
                | (go_at_call 169; (with_reducible refine (HZ0.out _).mono ?_); rintro e _ ⟨rfl, rfl⟩)
                | (go_at_call 170; (with_reducible refine HTK.out.mono ?_); rintro e' w4 ⟨rfl, hk4, E4, hq4, hm4, h84, hl4⟩; (
                    have HI4 := Lib.hid (HE1.out.step hk4 hq4 h84)
                    have HM4 := Lib.hid (hm4.trans HEL.out)
                    have HL4 := Lib.hid hl4
                    have hre := HRE.out.kr hk4 not34.2.2.1
                    clear hk4 hq4 hm4 h84 hl4 p0 p1 p2 p0f p1f p2f
                    rw [List.take_length] at hre
                    have p0 := HI4.out.prow.read (i := 0) (x := .int .i64 fi) rfl
                    have p1 := HI4.out.prow.read (i := 1) (x := .slice A 0 c) rfl
                    have p2 := HI4.out.prow.read (i := 2) (x := .slice D 0 dc) rfl
                    have p0f := HI4.out.prow.free 0
                    have p1f := HI4.out.prow.free 1
                    have p2f := HI4.out.prow.free 2
                    have hre2 := HI4.out.ent_set hre 0 (.int .i64 2)
                    have HI5 := Lib.hid (HI4.out.setfi 2)
                    have x0 := HI5.out.prow.read (i := 0) (x := .int .i64 2) rfl
                    have x1 := HI5.out.prow.read (i := 1) (x := .slice A 0 c) rfl
                    have x2 := HI5.out.prow.read (i := 2) (x := .slice D 0 dc) rfl
                    have x0f := HI5.out.prow.free 0
                    have x1f := HI5.out.prow.free 1
                    have x2f := HI5.out.prow.free 2
                    obtain ⟨A5, c5, w5, hrun5, hr5, hi5⟩ := HI5.out.addRow ⟨some ⟨e.g, e.tk, none⟩, e.c - e.tk, t.bs⟩ (by rw [HLK.out]; omega) hre2
                    unfold RowB.v at hrun5
                    rw [show (w4.setCell ⟨w.heap.size + 1, 0, none⟩ (.int .i64 2)).heap.size = w4.heap.size by simp] at hrun5
                    rw [HLK.out] at hrun5 hi5
                    have HI6 := Lib.hid hi5
                    have y0 := hr5.read (i := 0) (x := .int .i64 2) rfl
                    have y0f := hr5.free 0
                    have y1f := hr5.free 1
                    have y1 := hr5.read (i := 1) (x := .slice A 0 c) rfl
                    have y2 := hr5.read (i := 2) (x := .slice D 0 dc) rfl
                    obtain ⟨A6, c6, w6, hrun6, hr6, hi6⟩ := HI6.out.addId t.id (by rw [HIL.out]; omega)
                    rw [HIL.out] at hrun6 hi6
                    rw [show (w5.setCell ⟨w.heap.size + 1, 1, none⟩ (.slice A5 (0 + 1) c5)).heap.size = w5.heap.size by simp] at hrun6
                    have HI7 := Lib.hid hi6
                    have y3 := HI6.out.prow.read (i := 2) (x := .slice D 0 dc) rfl
                    have y2f := hr6.free 2
                    have y4 := hr6.read (i := 2) (x := .slice D 0 dc) rfl
                    clear hi5 hi6 hr5 hr6 hre hre2))
                | (at_builtin; refine wpList_is rfl (.tmp 80) (.tmp 82) 48 rfl _ _ (by rfl) (by rfl) hrun5 ?_)
                | (at_builtin; refine wpList_is rfl (.tmp 95) (.tmp 97) 39 rfl _ _ (by rfl) (by rfl) hrun6 ?_))
              go_roundw
              case rel => exact ⟨0 + 1, used + t.bs.length, 2, A5, c5, A6, c6, L ++ [⟨some ⟨e.g, e.tk, none⟩, e.c - e.tk, t.bs⟩], E4, by omega, by have := HKL.out; omega, by go_num, by omega, by omega, Lib.hid (by rw [lenT_sum_succ HT.out, HUS.out]), Lib.hid (by rw [if_neg (by omega), headBg_0 HT.out, hbg]; rfl), Lib.hid (by rw [List.length_append, HLK.out]; rfl), Lib.hid (by rw [HTS.out, List.map_append]; exact HI7.out), Lib.hid (by rw [HTS.out, List.map_append, ← HTX.out]; simp [texts]), HL4, HM4, Lib.hid HWN.out⟩
              case measure => simp [intOf]; omega
            · have HNB := Lib.hid (show t.bg = true → k = 0 → False from fun a b => hbk ⟨a, b⟩)
              clear hbk
              cases hbg : t.bg
              · rw [hbg] at HFR
                go_wp2_with (first
                  | (go_at_call 168; (with_reducible refine HFR.out.mono ?_); rintro e' w1 ⟨rfl, hb1⟩; (
                      have HE1 := Lib.hid (HI.out.later hb1)
                      have HTK := Lib.hid (dq_all HE1.out.q HE1.out.base.1 HE1.out.b8 HH.out)
                      have HRE := Lib.hid (HH.out.ent HE1.out.q HE1.out.b8 t.bs.length (Nat.le_refl _))
                      clear p0 p1 p2 p0f p1f p2f g0 g1 g2 d0 d1 d2 hb1
                      have p0 := HE1.out.prow.read (i := 0) (x := .int .i64 fi) rfl
                      have p1 := HE1.out.prow.read (i := 1) (x := .slice A k c) rfl
                      have p2 := HE1.out.prow.read (i := 2) (x := .slice D k dc) rfl
                      have p0f := HE1.out.prow.free 0
                      have p1f := HE1.out.prow.free 1
                      have p2f := HE1.out.prow.free 2))
                  | (go_at_call 169; (with_reducible refine (HZ0.out _).mono ?_); rintro e _ ⟨rfl, rfl⟩)
                  | (go_at_call 170; (with_reducible refine HTK.out.mono ?_); rintro e' w4 ⟨rfl, hk4, E4, hq4, hm4, h84, hl4⟩; (
                      have HI4 := Lib.hid (HE1.out.step hk4 hq4 h84)
                      have HM4 := Lib.hid (hm4.trans HEL.out)
                      have HL4 := Lib.hid hl4
                      have hre := HRE.out.kr hk4 not34.2.2.1
                      clear hk4 hq4 hm4 h84 hl4 p0 p1 p2 p0f p1f p2f
                      rw [List.take_length] at hre
                      have p0 := HI4.out.prow.read (i := 0) (x := .int .i64 fi) rfl
                      have p1 := HI4.out.prow.read (i := 1) (x := .slice A k c) rfl
                      have p2 := HI4.out.prow.read (i := 2) (x := .slice D k dc) rfl
                      have p0f := HI4.out.prow.free 0
                      have p1f := HI4.out.prow.free 1
                      have p2f := HI4.out.prow.free 2
                      have hre2 := hre
                      have HI5 := HI4
                      obtain ⟨A5, c5, w5, hrun5, hr5, hi5⟩ := HI5.out.addRow ⟨some ⟨e.g, e.tk, none⟩, e.c - e.tk, t.bs⟩ (by rw [HLK.out]; omega) hre2
                      unfold RowB.v at hrun5
                      rw [HLK.out] at hrun5 hi5
                      have HI6 := Lib.hid hi5
                      have y0 := hr5.read (i := 0) (x := .int .i64 fi) rfl
                      have y0f := hr5.free 0
                      have y1f := hr5.free 1
                      have y1 := hr5.read (i := 1) (x := .slice A k c) rfl
                      have y2 := hr5.read (i := 2) (x := .slice D k dc) rfl
                      obtain ⟨A6, c6, w6, hrun6, hr6, hi6⟩ := HI6.out.addId t.id (by rw [HIL.out]; omega)
                      rw [HIL.out] at hrun6 hi6
                      rw [show (w5.setCell ⟨w.heap.size + 1, 1, none⟩ (.slice A5 (k + 1) c5)).heap.size = w5.heap.size by simp] at hrun6
                      have HI7 := Lib.hid hi6
                      have y3 := HI6.out.prow.read (i := 2) (x := .slice D k dc) rfl
                      have y2f := hr6.free 2
                      have y4 := hr6.read (i := 2) (x := .slice D k dc) rfl
                      clear hi5 hi6 hr5 hr6 hre hre2))
                  | (at_builtin; refine wpList_is rfl (.tmp 80) (.tmp 82) 48 rfl _ _ (by rfl) (by rfl) hrun5 ?_)
                  | (at_builtin; refine wpList_is rfl (.tmp 95) (.tmp 97) 39 rfl _ _ (by rfl) (by rfl) hrun6 ?_))
                go_roundw
                case rel => exact ⟨k + 1, used + t.bs.length, fi, A5, c5, A6, c6, L ++ [⟨some ⟨e.g, e.tk, none⟩, e.c - e.tk, t.bs⟩], E4, by omega, by have := HKL.out; omega, by go_num, by omega, by omega, Lib.hid (by rw [lenT_sum_succ HT.out, HUS.out]), Lib.hid (fi_next HT.out HFI.out HNB.out), Lib.hid (by rw [List.length_append, HLK.out]; rfl), Lib.hid (by rw [HTS.out, List.map_append]; exact HI7.out), Lib.hid (by rw [HTS.out, List.map_append, ← HTX.out]; simp [texts]), HL4, HM4, Lib.hid HWN.out⟩
                case measure => simp [intOf]; omega
              · have hkz : ((k : Int) == 0) = false := by have := HNB.out hbg; simp; omega
                rw [hbg] at HFR
                go_wp2_with (first
                  | (go_at_call 168; (with_reducible refine HFR.out.mono ?_); rintro e' w1 ⟨rfl, hb1⟩; (
                      have HE1 := Lib.hid (HI.out.later hb1)
                      have HTK := Lib.hid (dq_all HE1.out.q HE1.out.base.1 HE1.out.b8 HH.out)
                      have HRE := Lib.hid (HH.out.ent HE1.out.q HE1.out.b8 t.bs.length (Nat.le_refl _))
                      clear p0 p1 p2 p0f p1f p2f g0 g1 g2 d0 d1 d2 hb1
                      have p0 := HE1.out.prow.read (i := 0) (x := .int .i64 fi) rfl
                      have p1 := HE1.out.prow.read (i := 1) (x := .slice A k c) rfl
                      have p2 := HE1.out.prow.read (i := 2) (x := .slice D k dc) rfl
                      have p0f := HE1.out.prow.free 0
                      have p1f := HE1.out.prow.free 1
                      have p2f := HE1.out.prow.free 2))
                  | (go_at_call 169; (with_reducible refine (HZ0.out _).mono ?_); rintro e _ ⟨rfl, rfl⟩)
                  | (go_at_call 170; (with_reducible refine HTK.out.mono ?_); rintro e' w4 ⟨rfl, hk4, E4, hq4, hm4, h84, hl4⟩; (
                      have HI4 := Lib.hid (HE1.out.step hk4 hq4 h84)
                      have HM4 := Lib.hid (hm4.trans HEL.out)
                      have HL4 := Lib.hid hl4
                      have hre := HRE.out.kr hk4 not34.2.2.1
                      clear hk4 hq4 hm4 h84 hl4 p0 p1 p2 p0f p1f p2f
                      rw [List.take_length] at hre
                      have p0 := HI4.out.prow.read (i := 0) (x := .int .i64 fi) rfl
                      have p1 := HI4.out.prow.read (i := 1) (x := .slice A k c) rfl
                      have p2 := HI4.out.prow.read (i := 2) (x := .slice D k dc) rfl
                      have p0f := HI4.out.prow.free 0
                      have p1f := HI4.out.prow.free 1
                      have p2f := HI4.out.prow.free 2
                      have hre2 := hre
                      have HI5 := HI4
                      obtain ⟨A5, c5, w5, hrun5, hr5, hi5⟩ := HI5.out.addRow ⟨some ⟨e.g, e.tk, none⟩, e.c - e.tk, t.bs⟩ (by rw [HLK.out]; omega) hre2
                      unfold RowB.v at hrun5
                      rw [HLK.out] at hrun5 hi5
                      have HI6 := Lib.hid hi5
                      have y0 := hr5.read (i := 0) (x := .int .i64 fi) rfl
                      have y0f := hr5.free 0
                      have y1f := hr5.free 1
                      have y1 := hr5.read (i := 1) (x := .slice A k c) rfl
                      have y2 := hr5.read (i := 2) (x := .slice D k dc) rfl
                      obtain ⟨A6, c6, w6, hrun6, hr6, hi6⟩ := HI6.out.addId t.id (by rw [HIL.out]; omega)
                      rw [HIL.out] at hrun6 hi6
                      rw [show (w5.setCell ⟨w.heap.size + 1, 1, none⟩ (.slice A5 (k + 1) c5)).heap.size = w5.heap.size by simp] at hrun6
                      have HI7 := Lib.hid hi6
                      have y3 := HI6.out.prow.read (i := 2) (x := .slice D k dc) rfl
                      have y2f := hr6.free 2
                      have y4 := hr6.read (i := 2) (x := .slice D k dc) rfl
                      clear hi5 hi6 hr5 hr6 hre hre2))
                  | (at_builtin; refine wpList_is rfl (.tmp 80) (.tmp 82) 48 rfl _ _ (by rfl) (by rfl) hrun5 ?_)
                  | (at_builtin; refine wpList_is rfl (.tmp 95) (.tmp 97) 39 rfl _ _ (by rfl) (by rfl) hrun6 ?_))
                go_roundw
                case rel => exact ⟨k + 1, used + t.bs.length, fi, A5, c5, A6, c6, L ++ [⟨some ⟨e.g, e.tk, none⟩, e.c - e.tk, t.bs⟩], E4, by omega, by have := HKL.out; omega, by go_num, by omega, by omega, Lib.hid (by rw [lenT_sum_succ HT.out, HUS.out]), Lib.hid (fi_next HT.out HFI.out HNB.out), Lib.hid (by rw [List.length_append, HLK.out]; rfl), Lib.hid (by rw [HTS.out, List.map_append]; exact HI7.out), Lib.hid (by rw [HTS.out, List.map_append, ← HTX.out]; simp [texts]), HL4, HM4, Lib.hid HWN.out⟩
                case measure => simp [intOf]; omega
      · have HFR := Lib.hid (rq_front_none HI.out.q (empty_of (by rw [HLV.out, List.drop_eq_nil_of_le (by omega)])))
        have HBL := Lib.hid (show Bld room 11 (lenT ts) k (nextF 0 ((lenT ts).take k) room 11) from ⟨by rw [length_lenT]; omega, HWH.out, by rw [lenT_d0 (by omega)], .inl (by rw [HNX.out]; omega)⟩)
        have HN0 := Lib.hid (show nextF 0 ((lenT ts).take k) room 11 ≤ 0 by rw [HNX.out]; omega)
        generalize nextF 0 ((lenT ts).take k) room 11 = n at HBL HN0
        have HE1 := HI
        rcases Nat.eq_zero_or_pos k with hk0 | hk0
        · subst hk0
          have HZ0 : Hid (∀ W : World, Calls Try.prog 169 #[.int .i64 0, .int .i64 11] W fun e w' => e = .returned (.int .i64 z) ∧ W = w') := HZ0
          go_wp2_with (first
            | (go_at_call 168; (with_reducible refine HFR.out.mono ?_); rintro e' _ ⟨rfl, rfl⟩)
            | (go_at_call 169; (with_reducible refine (HZ0.out _).mono ?_); rintro e _ ⟨rfl, rfl⟩))
          try simp only [Exit.jump]
          obtain ⟨d24, hu24⟩ := underrpc_parts
          refine bodyPost_ret (results_two rfl _ _ w.heap.size 151 #[.int .i64 0, .slice none 0 0, .slice none 0 0] d24 rfl (((HE1.out.res.written 0 (.int .i64 0)).written 1 (.slice none 0 0)).written 2 (.slice none 0 0)) hu24 Try.inforpcs) rfl ?_
          exact rcut_none HBL.out HN0.out HLV.out HEL.out HE1.out (only3 _ _ _ _ _)
        · have hkz : ((k : Int) == 0) = false := by simp; omega
          go_wp2_with (first
            | (go_at_call 168; (with_reducible refine HFR.out.mono ?_); rintro e' _ ⟨rfl, rfl⟩)
            | (go_at_call 169; (with_reducible refine (HZ0.out _).mono ?_); rintro e _ ⟨rfl, rfl⟩))
          try simp only [Exit.jump]
          obtain ⟨d24, hu24⟩ := underrpc_parts
          refine bodyPost_ret (results_two rfl _ _ w.heap.size 151 #[.int .i64 fi, .slice A k c, .slice D k dc] d24 rfl (((HE1.out.res.written 0 (.int .i64 fi)).written 1 (.slice A k c)).written 2 (.slice D k dc)) hu24 Try.inforpcs) rfl ?_
          exact rcut_some HBL.out (.inl hk0) (by rw [fiT_zero rfl HN0.out, HFI.out, if_neg (by omega)]) (fieldsT_zero HN0.out HTX.out) (by rw [HLV.out, txR_zero HN0.out]) HEL.out HLK.out (by omega) HE1.out (only3 _ _ _ _ _)
    · obtain rfl : k = 24 := by omega
      have HBL := Lib.hid (show Bld room 11 (lenT ts) 24 (nextF ((lenT ts).getD 24 0) ((lenT ts).take 24) room 11) from ⟨by rw [length_lenT]; omega, HWH.out, rfl, .inl (by rw [nextF_end HKL.out]; omega)⟩)
      have HN0 := Lib.hid (show nextF ((lenT ts).getD 24 0) ((lenT ts).take 24) room 11 ≤ 0 by rw [nextF_end HKL.out]; omega)
      generalize nextF ((lenT ts).getD 24 0) ((lenT ts).take 24) room 11 = n at HBL HN0
      have HE1 := HI
      go_wp2
      try simp only [Exit.jump]
      obtain ⟨d24, hu24⟩ := underrpc_parts
      refine bodyPost_ret (results_two rfl _ _ w.heap.size 151 #[.int .i64 fi, .slice A 24 c, .slice D 24 dc] d24 rfl (((HE1.out.res.written 0 (.int .i64 fi)).written 1 (.slice A 24 c)).written 2 (.slice D 24 dc)) hu24 Try.inforpcs) rfl ?_
      exact rcut_some HBL.out (.inl (by omega)) (by rw [fiT_zero rfl HN0.out, HFI.out, if_neg (by omega)]) (fieldsT_zero HN0.out HTX.out) (by rw [HLV.out, txR_zero HN0.out]) HEL.out HLK.out (by omega) HE1.out (only3 _ _ _ _ _)
set_option maxRecDepth 100000 in
set_option maxHeartbeats 25600000 in
theorem rcut_15 {w : World} {y B : Nat} {R : Int} {ts : List Txt} {E : List Ent} (room : Int) (h : RQ w y B R E) (hl : tx ts = live 0 E) (hB : B ≤ w.heap.size) (h8 : ∀ e ∈ E, ∀ b ∈ e.bs, b < 256) (hr0 : 0 ≤ room) (hr1 : room ≤ 4000) :
    Calls Try.prog 93 #[.pointer (some ⟨y, 0, none⟩), .int .i64 room, .int .i64 15] w (RCutDone B y R E.length ts room 15 w) := by
  have hb0 := bl_alloc (Below.refl w.heap.size w) (.cells #[.int .i64 0, .slice none 0 0, .slice none 0 0] 151)
  have hb1 := bl_alloc hb0 (.cells #[.int .i64 0, .slice none 0 0, .slice none 0 0] 151)
  have HSZ := Lib.hid (fun (k : Int) (W : World) => refsize_any k 15 W)
  have hD0 : DC B y R w (w.heap.size + 1) 0 (.slice none 0 0) (.slice none 0 0) [] [] E ((w.alloc (.cells #[.int .i64 0, .slice none 0 0, .slice none 0 0] 151)).alloc (.cells #[.int .i64 0, .slice none 0 0, .slice none 0 0] 151)) := by
    refine ⟨h.later hb1, (h.low).kr (X := X34) (KR.of_below hB hb1) not34.2.2.2.2, h8, KR.of_below hB hb1, World.ownsRow_nil _ _ _ _, (fun r hr => by cases hr), World.ownsRow_nil _ _ _ _, (Row.made w _ _).more _, ?_, by omega⟩
    have h9 := Row.made (w.alloc (.cells #[.int .i64 0, .slice none 0 0, .slice none 0 0] 151)) 151 #[.int .i64 0, .slice none 0 0, .slice none 0 0]
    rw [show (w.alloc (.cells #[.int .i64 0, .slice none 0 0, .slice none 0 0] 151)).heap.size = w.heap.size + 1 by simp] at h9
    exact h9
  have HD0 := Lib.hid hD0
  have HL0 := Lib.hid hl
  have HR0 := Lib.hid (And.intro hr0 hr1)
  have hr2 : ¬ room < 0 := by omega
  have hr3 : ¬ 4000 < room := by omega
  clear hD0 h h8 hb0 hb1 hl
  go_enter Try.func93, Try.ntmps93
  go_wp2
  generalize hW : (w.alloc (.cells #[.int .i64 0, .slice none 0 0, .slice none 0 0] 151)).alloc (.cells #[.int .i64 0, .slice none 0 0, .slice none 0 0] 151) = W2 at *
  clear hW
  go_loopw [9] (fun s9 wr => ∃ (k used : Nat) (fi : Int) (A : Option Addr) (c : Nat) (D : Option Addr) (dc : Nat) (L : List RowB) (E' : List Ent), k ≤ 24 ∧ k ≤ ts.length ∧ s9 = .int .i64 used ∧ used ≤ 4000 ∧ k ≤ used ∧ Hid (((lenT ts).take k).sum = used) ∧ Hid (fi = (if k = 0 then 0 else if headBg ts then 2 else 0)) ∧ Hid (L.length = k) ∧
      Hid (DC B y R w (w.heap.size + 1) fi (.slice A k c) (.slice D k dc) L ((ts.take k).map Txt.id) E' wr) ∧ Hid (texts L = (ts.take k).map Txt.bs) ∧ Hid (live 0 E' = tx (ts.drop k)) ∧ Hid (E'.length = E.length) ∧ Hid (∀ i l, i < k → (lenT ts)[i]? = some l → nextF l ((lenT ts).take i) room 15 = l)) (fun s9 _ => 4000 - (intOf s9).toNat)
  case atStart => exact ⟨0, 0, 0, none, 0, none, 0, [], E, by omega, by omega, rfl, by omega, by omega, Lib.hid (by simp), Lib.hid (by simp), Lib.hid rfl, HD0, Lib.hid (by simp [texts]), Lib.hid HL0.out.symm, Lib.hid rfl, Lib.hid (fun i l hi => by omega)⟩
  case round =>
    obtain ⟨k, used, fi, A, c, D, dc, L, E', hk, hkl, rfl, hu, hku, HUS, HFI, HLK, HI, HTX, HLV, HEL, HWH⟩ := hrel
    have HKL := Lib.hid hkl
    have p0 := HI.out.prow.read (i := 0) (x := .int .i64 fi) rfl
    have p1 := HI.out.prow.read (i := 1) (x := .slice A k c) rfl
    have p2 := HI.out.prow.read (i := 2) (x := .slice D k dc) rfl
    have p0f := HI.out.prow.free 0
    have p1f := HI.out.prow.free 1
    have p2f := HI.out.prow.free 2
    have g0 := HI.out.res.free 0
    have g1 := HI.out.res.free 1
    have g2 := HI.out.res.free 2
    have d0 := HI.out.res.read (i := 0) (x := .int .i64 0) rfl
    have d1 := HI.out.res.read (i := 1) (x := .slice none 0 0) rfl
    have d2 := HI.out.res.read (i := 2) (x := .slice none 0 0) rfl
    rcases Nat.lt_or_ge k 24 with hk24 | hk24
    · have hki : (k : Int) < 24 := by omega
      obtain ⟨z, hz⟩ : ∃ z, sizeF k 15 = z := ⟨_, rfl⟩
      have hzb := sizeF_nonneg (k : Int) 15
      rw [hz] at hzb
      have HZ0 := Lib.hid (fun W => HSZ.out (k : Int) W)
      rw [hz] at HZ0
      have HZZ := Lib.hid hz
      obtain ⟨lf, hlf⟩ : ∃ lf : Int, room - used - z = lf := ⟨_, rfl⟩
      have hw1 : IntKind.i64.wrap (room - (used : Int)) = room - used := by rw [IntWalk.i64_in _ (by omega)]
      have hw2 : IntKind.i64.wrap (room - (used : Int) - z) = lf := by rw [IntWalk.i64_in _ (by omega)]; exact hlf
      have HNX := Lib.hid (fun (l : Nat) => (show nextF l ((lenT ts).take k) room 15 = min (l : Int) lf by rw [nextF_at hk24 HKL.out, HUS.out, HZZ.out, hlf]))
      clear hz
      rcases Nat.lt_or_ge k ts.length with hlt | hge
      · obtain ⟨t, ht⟩ : ∃ t, ts[k]? = some t := ⟨_, List.getElem?_eq_getElem hlt⟩
        have hd : ts.drop k = t :: ts.drop (k + 1) := by
          rw [List.drop_eq_getElem_cons hlt]
          obtain ⟨_, e⟩ := List.getElem?_eq_some_iff.1 ht
          rw [e]
        obtain ⟨e, he⟩ := head_of (r := ts.drop (k + 1)) (E := E') (t := t) (by rw [← hd]; exact HLV.out.symm)
        have HH := Lib.hid he
        obtain ⟨hb1, hb2, hb3, hb4⟩ := he.bounds HI.out.q
        have HFR := Lib.hid (dq_front HI.out.q he)
        have hidz : ((t.id : Int) == 0) = false := by have := he.id; simp; omega
        have HT := Lib.hid ht
        have HTS := Lib.hid (show ts.take (k + 1) = ts.take k ++ [t] by rw [List.take_add_one, ht]; rfl)
        have HIL := Lib.hid (show ((ts.take k).map Txt.id).length = k by rw [List.length_map, List.length_take]; omega)
        clear hd he ht
        rcases Int.lt_or_le lf 1 with hl1 | hl1
        · have HBL := Lib.hid (show Bld room 15 (lenT ts) k (nextF t.bs.length ((lenT ts).take k) room 15) from ⟨by rw [length_lenT]; omega, HWH.out, by rw [lenT_d HT.out], .inl (by rw [HNX.out]; omega)⟩)
          have HN0 := Lib.hid (show nextF t.bs.length ((lenT ts).take k) room 15 ≤ 0 by rw [HNX.out]; omega)
          generalize nextF t.bs.length ((lenT ts).take k) room 15 = n at HBL HN0
          rcases Nat.eq_zero_or_pos k with hk0 | hk0
          · subst hk0
            have HZ0 : Hid (∀ W : World, Calls Try.prog 169 #[.int .i64 0, .int .i64 15] W fun e w' => e = .returned (.int .i64 z) ∧ W = w') := HZ0
            go_wp2_with (first
              | (go_at_call 168; (with_reducible refine HFR.out.mono ?_); rintro e' w1 ⟨rfl, hb1⟩; (
                  have HE1 := Lib.hid (HI.out.later hb1)
                  clear p0 p1 p2 p0f p1f p2f g0 g1 g2 d0 d1 d2 hb1
                  have p0 := HE1.out.prow.read (i := 0) (x := .int .i64 fi) rfl
                  have p1 := HE1.out.prow.read (i := 1) (x := .slice A 0 c) rfl
                  have p2 := HE1.out.prow.read (i := 2) (x := .slice D 0 dc) rfl
                  have p0f := HE1.out.prow.free 0
                  have p1f := HE1.out.prow.free 1
                  have p2f := HE1.out.prow.free 2
                  have g0 := HE1.out.res.free 0
                  have g1 := HE1.out.res.free 1
                  have g2 := HE1.out.res.free 2
                  have d0 := HE1.out.res.read (i := 0) (x := .int .i64 0) rfl
                  have d1 := HE1.out.res.read (i := 1) (x := .slice none 0 0) rfl
                  have d2 := HE1.out.res.read (i := 2) (x := .slice none 0 0) rfl))
              | (go_at_call 169; (with_reducible refine (HZ0.out _).mono ?_); rintro e _ ⟨rfl, rfl⟩))
            try simp only [Exit.jump]
            obtain ⟨d24, hu24⟩ := underrpc_parts
            refine bodyPost_ret (results_two rfl _ _ w.heap.size 151 #[.int .i64 0, .slice none 0 0, .slice none 0 0] d24 rfl (((HE1.out.res.written 0 (.int .i64 0)).written 1 (.slice none 0 0)).written 2 (.slice none 0 0)) hu24 Try.inforpcs) rfl ?_
            exact rcut_none HBL.out HN0.out HLV.out HEL.out HE1.out (only3 _ _ _ _ _)
          · have hkz : ((k : Int) == 0) = false := by simp; omega
            go_wp2_with (first
              | (go_at_call 168; (with_reducible refine HFR.out.mono ?_); rintro e' w1 ⟨rfl, hb1⟩; (
                  have HE1 := Lib.hid (HI.out.later hb1)
                  clear p0 p1 p2 p0f p1f p2f g0 g1 g2 d0 d1 d2 hb1
                  have p0 := HE1.out.prow.read (i := 0) (x := .int .i64 fi) rfl
                  have p1 := HE1.out.prow.read (i := 1) (x := .slice A k c) rfl
                  have p2 := HE1.out.prow.read (i := 2) (x := .slice D k dc) rfl
                  have p0f := HE1.out.prow.free 0
                  have p1f := HE1.out.prow.free 1
                  have p2f := HE1.out.prow.free 2
                  have g0 := HE1.out.res.free 0
                  have g1 := HE1.out.res.free 1
                  have g2 := HE1.out.res.free 2
                  have d0 := HE1.out.res.read (i := 0) (x := .int .i64 0) rfl
                  have d1 := HE1.out.res.read (i := 1) (x := .slice none 0 0) rfl
                  have d2 := HE1.out.res.read (i := 2) (x := .slice none 0 0) rfl))
              | (go_at_call 169; (with_reducible refine (HZ0.out _).mono ?_); rintro e _ ⟨rfl, rfl⟩))
            try simp only [Exit.jump]
            obtain ⟨d24, hu24⟩ := underrpc_parts
            refine bodyPost_ret (results_two rfl _ _ w.heap.size 151 #[.int .i64 fi, .slice A k c, .slice D k dc] d24 rfl (((HE1.out.res.written 0 (.int .i64 fi)).written 1 (.slice A k c)).written 2 (.slice D k dc)) hu24 Try.inforpcs) rfl ?_
            exact rcut_some HBL.out (.inl hk0) (by rw [fiT_zero rfl HN0.out, HFI.out, if_neg (by omega)]) (fieldsT_zero HN0.out HTX.out) (by rw [HLV.out, txR_zero HN0.out]) HEL.out HLK.out (by omega) HE1.out (only3 _ _ _ _ _)
        · have hl2 : ¬ lf < 1 := by omega
          rcases Int.lt_or_le lf t.bs.length with hl3 | hl3
          · obtain ⟨nn, rfl⟩ : ∃ nn : Nat, lf = nn := ⟨lf.toNat, by omega⟩
            have hn1 : 1 ≤ nn := by omega
            have hn2 : nn < t.bs.length := by omega
            have HTN := Lib.hid (show (t.bs.take nn).length = nn by rw [List.length_take]; omega)
            have HBL := Lib.hid (show Bld room 15 (lenT ts) k (nn : Int) from ⟨by rw [length_lenT]; omega, HWH.out, by rw [lenT_d HT.out, HNX.out]; omega, .inr ⟨by rw [length_lenT]; omega, by rw [lenT_d HT.out]; omega⟩⟩)
            have hkz1 : (((k + 1 : Nat) : Int) == 0) = false := by simp; omega
            have hkz2 : ((k : Int) + 1 == 0) = false := by simp; omega
            by_cases hbk : t.bg = true ∧ k = 0
            · obtain ⟨hbg, hk0⟩ := hbk
              subst hk0
              have HZ0 : Hid (∀ W : World, Calls Try.prog 169 #[.int .i64 0, .int .i64 15] W fun e w' => e = .returned (.int .i64 z) ∧ W = w') := HZ0
              rw [hbg] at HFR
              go_wp2_with (first
                | (go_at_call 168; (with_reducible refine HFR.out.mono ?_); rintro e' w1 ⟨rfl, hb1⟩; (
                    have HE1 := Lib.hid (HI.out.later hb1)
                    have HTK := Lib.hid (dq_some nn HE1.out.q HE1.out.base.1 HE1.out.b8 HH.out hn1 hn2)
                    have HRE := Lib.hid (HH.out.ent HE1.out.q HE1.out.b8 nn (Nat.le_of_lt hn2))
                    clear p0 p1 p2 p0f p1f p2f g0 g1 g2 d0 d1 d2 hb1
                    have p0 := HE1.out.prow.read (i := 0) (x := .int .i64 fi) rfl
                    have p1 := HE1.out.prow.read (i := 1) (x := .slice A 0 c) rfl
                    have p2 := HE1.out.prow.read (i := 2) (x := .slice D 0 dc) rfl
                    have p0f := HE1.out.prow.free 0
                    have p1f := HE1.out.prow.free 1
                    have p2f := HE1.out.prow.free 2))
                | (go_at_call 169; (with_reducible refine (HZ0.out _).mono ?_); rintro e _ ⟨rfl, rfl⟩)
                | (go_at_call 170; (with_reducible refine HTK.out.mono ?_); rintro e' w4 ⟨rfl, hk4, E4, hq4, hm4, h84, hl4⟩; (
                    have HI4 := Lib.hid (HE1.out.step hk4 hq4 h84)
                    have HM4 := Lib.hid (hm4.trans HEL.out)
                    have HL4 := Lib.hid hl4
                    have hre := HRE.out.kr hk4 not34.2.2.1
                    clear hk4 hq4 hm4 h84 hl4 p0 p1 p2 p0f p1f p2f
                    have p0 := HI4.out.prow.read (i := 0) (x := .int .i64 fi) rfl
                    have p1 := HI4.out.prow.read (i := 1) (x := .slice A 0 c) rfl
                    have p2 := HI4.out.prow.read (i := 2) (x := .slice D 0 dc) rfl
                    have p0f := HI4.out.prow.free 0
                    have p1f := HI4.out.prow.free 1
                    have p2f := HI4.out.prow.free 2
                    have hre2 := HI4.out.ent_set hre 0 (.int .i64 2)
                    have HI5 := Lib.hid (HI4.out.setfi 2)
                    have x0 := HI5.out.prow.read (i := 0) (x := .int .i64 2) rfl
                    have x1 := HI5.out.prow.read (i := 1) (x := .slice A 0 c) rfl
                    have x2 := HI5.out.prow.read (i := 2) (x := .slice D 0 dc) rfl
                    have x0f := HI5.out.prow.free 0
                    have x1f := HI5.out.prow.free 1
                    have x2f := HI5.out.prow.free 2
                    obtain ⟨A5, c5, w5, hrun5, hr5, hi5⟩ := HI5.out.addRow ⟨some ⟨e.g, e.tk, none⟩, e.c - e.tk, t.bs.take nn⟩ (by rw [HLK.out]; omega) hre2
                    unfold RowB.v at hrun5
                    rw [show (w4.setCell ⟨w.heap.size + 1, 0, none⟩ (.int .i64 2)).heap.size = w4.heap.size by simp] at hrun5
                    rw [HLK.out] at hrun5 hi5
                    simp only [HTN.out] at hrun5
                    have HI6 := Lib.hid hi5
                    have y0 := hr5.read (i := 0) (x := .int .i64 2) rfl
                    have y0f := hr5.free 0
                    have y1f := hr5.free 1
                    have y1 := hr5.read (i := 1) (x := .slice A 0 c) rfl
                    have y2 := hr5.read (i := 2) (x := .slice D 0 dc) rfl
                    have z0 := HI6.out.prow.read (i := 0) (x := .int .i64 2) rfl
                    have z0f := HI6.out.prow.free 0
                    have HI7 := Lib.hid (HI6.out.setfi (3))
                    have e0 := HI7.out.prow.read (i := 0) (x := .int .i64 3) rfl
                    have e1 := HI7.out.prow.read (i := 1) (x := .slice A5 (0 + 1) c5) rfl
                    have e2 := HI7.out.prow.read (i := 2) (x := .slice D 0 dc) rfl
                    have e0f := HI7.out.prow.free 0
                    have e1f := HI7.out.prow.free 1
                    have e2f := HI7.out.prow.free 2
                    have h0 := HI7.out.res.free 0
                    have h1 := HI7.out.res.free 1
                    have h2 := HI7.out.res.free 2
                    have k0 := HI7.out.res.read (i := 0) (x := .int .i64 0) rfl
                    have k1 := HI7.out.res.read (i := 1) (x := .slice none 0 0) rfl
                    have k2 := HI7.out.res.read (i := 2) (x := .slice none 0 0) rfl
                    clear hi5 hr5 hre hre2))
                | (at_builtin; refine wpList_is rfl (.tmp 80) (.tmp 82) 48 rfl _ _ (by rfl) (by rfl) hrun5 ?_))
              try simp only [Exit.jump]
              obtain ⟨d24, hu24⟩ := underrpc_parts
              refine bodyPost_ret (results_two rfl _ _ w.heap.size 151 #[.int .i64 3, .slice A5 (0 + 1) c5, .slice D 0 dc] d24 rfl (((HI7.out.res.written 0 (.int .i64 3)).written 1 (.slice A5 (0 + 1) c5)).written 2 (.slice D 0 dc)) hu24 Try.inforpcs) rfl ?_
              refine rcut_some HBL.out (.inr (by omega)) (by rw [fiT_pos (by rw [headBg_0 HT.out, hbg]) (show (0 : Int) < nn by omega)]; rfl) ?_ (by rw [HL4.out, txR_some HT.out hn1]) HM4.out (by rw [List.length_append, HLK.out]; rfl) (by omega) HI7.out (only3 _ _ _ _ _)
              unfold fieldsT
              rw [if_neg (by omega), ← List.map_take, ← HTX.out, List.getD_eq_getElem?_getD, List.getElem?_map, HT.out]
              simp [texts]
            · have HNB := Lib.hid (show t.bg = true → k = 0 → False from fun a b => hbk ⟨a, b⟩)
              have hwf : IntKind.i64.wrap (fi + 1) = fi + 1 := by rw [IntWalk.i64_in _ (by have := HFI.out; split at this; omega; split at this <;> omega)]
              clear hbk
              cases hbg : t.bg
              · rw [hbg] at HFR
                go_wp2_with (first
                  | (go_at_call 168; (with_reducible refine HFR.out.mono ?_); rintro e' w1 ⟨rfl, hb1⟩; (
                      have HE1 := Lib.hid (HI.out.later hb1)
                      have HTK := Lib.hid (dq_some nn HE1.out.q HE1.out.base.1 HE1.out.b8 HH.out hn1 hn2)
                      have HRE := Lib.hid (HH.out.ent HE1.out.q HE1.out.b8 nn (Nat.le_of_lt hn2))
                      clear p0 p1 p2 p0f p1f p2f g0 g1 g2 d0 d1 d2 hb1
                      have p0 := HE1.out.prow.read (i := 0) (x := .int .i64 fi) rfl
                      have p1 := HE1.out.prow.read (i := 1) (x := .slice A k c) rfl
                      have p2 := HE1.out.prow.read (i := 2) (x := .slice D k dc) rfl
                      have p0f := HE1.out.prow.free 0
                      have p1f := HE1.out.prow.free 1
                      have p2f := HE1.out.prow.free 2))
                  | (go_at_call 169; (with_reducible refine (HZ0.out _).mono ?_); rintro e _ ⟨rfl, rfl⟩)
                  | (go_at_call 170; (with_reducible refine HTK.out.mono ?_); rintro e' w4 ⟨rfl, hk4, E4, hq4, hm4, h84, hl4⟩; (
                      have HI4 := Lib.hid (HE1.out.step hk4 hq4 h84)
                      have HM4 := Lib.hid (hm4.trans HEL.out)
                      have HL4 := Lib.hid hl4
                      have hre := HRE.out.kr hk4 not34.2.2.1
                      clear hk4 hq4 hm4 h84 hl4 p0 p1 p2 p0f p1f p2f
                      have p0 := HI4.out.prow.read (i := 0) (x := .int .i64 fi) rfl
                      have p1 := HI4.out.prow.read (i := 1) (x := .slice A k c) rfl
                      have p2 := HI4.out.prow.read (i := 2) (x := .slice D k dc) rfl
                      have p0f := HI4.out.prow.free 0
                      have p1f := HI4.out.prow.free 1
                      have p2f := HI4.out.prow.free 2
                      have hre2 := hre
                      have HI5 := HI4
                      obtain ⟨A5, c5, w5, hrun5, hr5, hi5⟩ := HI5.out.addRow ⟨some ⟨e.g, e.tk, none⟩, e.c - e.tk, t.bs.take nn⟩ (by rw [HLK.out]; omega) hre2
                      unfold RowB.v at hrun5
                      rw [HLK.out] at hrun5 hi5
                      simp only [HTN.out] at hrun5
                      have HI6 := Lib.hid hi5
                      have y0 := hr5.read (i := 0) (x := .int .i64 fi) rfl
                      have y0f := hr5.free 0
                      have y1f := hr5.free 1
                      have y1 := hr5.read (i := 1) (x := .slice A k c) rfl
                      have y2 := hr5.read (i := 2) (x := .slice D k dc) rfl
                      have z0 := HI6.out.prow.read (i := 0) (x := .int .i64 fi) rfl
                      have z0f := HI6.out.prow.free 0
                      have HI7 := Lib.hid (HI6.out.setfi (fi + 1))
                      have e0 := HI7.out.prow.read (i := 0) (x := .int .i64 (fi + 1)) rfl
                      have e1 := HI7.out.prow.read (i := 1) (x := .slice A5 (k + 1) c5) rfl
                      have e2 := HI7.out.prow.read (i := 2) (x := .slice D k dc) rfl
                      have e0f := HI7.out.prow.free 0
                      have e1f := HI7.out.prow.free 1
                      have e2f := HI7.out.prow.free 2
                      have h0 := HI7.out.res.free 0
                      have h1 := HI7.out.res.free 1
                      have h2 := HI7.out.res.free 2
                      have k0 := HI7.out.res.read (i := 0) (x := .int .i64 0) rfl
                      have k1 := HI7.out.res.read (i := 1) (x := .slice none 0 0) rfl
                      have k2 := HI7.out.res.read (i := 2) (x := .slice none 0 0) rfl
                      clear hi5 hr5 hre hre2))
                  | (at_builtin; refine wpList_is rfl (.tmp 80) (.tmp 82) 48 rfl _ _ (by rfl) (by rfl) hrun5 ?_))
                try simp only [Exit.jump]
                obtain ⟨d24, hu24⟩ := underrpc_parts
                refine bodyPost_ret (results_two rfl _ _ w.heap.size 151 #[.int .i64 (fi + 1), .slice A5 (k + 1) c5, .slice D k dc] d24 rfl (((HI7.out.res.written 0 (.int .i64 (fi + 1))).written 1 (.slice A5 (k + 1) c5)).written 2 (.slice D k dc)) hu24 Try.inforpcs) rfl ?_
                refine rcut_some HBL.out (.inr (by omega)) (fiT_more HT.out HFI.out (by omega) HNB.out) ?_ (by rw [HL4.out, txR_some HT.out hn1]) HM4.out (by rw [List.length_append, HLK.out]; rfl) (by omega) HI7.out (only3 _ _ _ _ _)
                unfold fieldsT
                rw [if_neg (by omega), ← List.map_take, ← HTX.out, List.getD_eq_getElem?_getD, List.getElem?_map, HT.out]
                simp [texts]
              · have hkz : ((k : Int) == 0) = false := by have := HNB.out hbg; simp; omega
                rw [hbg] at HFR
                go_wp2_with (first
                  | (go_at_call 168; (with_reducible refine HFR.out.mono ?_); rintro e' w1 ⟨rfl, hb1⟩; (
                      have HE1 := Lib.hid (HI.out.later hb1)
                      have HTK := Lib.hid (dq_some nn HE1.out.q HE1.out.base.1 HE1.out.b8 HH.out hn1 hn2)
                      have HRE := Lib.hid (HH.out.ent HE1.out.q HE1.out.b8 nn (Nat.le_of_lt hn2))
                      clear p0 p1 p2 p0f p1f p2f g0 g1 g2 d0 d1 d2 hb1
                      have p0 := HE1.out.prow.read (i := 0) (x := .int .i64 fi) rfl
                      have p1 := HE1.out.prow.read (i := 1) (x := .slice A k c) rfl
                      have p2 := HE1.out.prow.read (i := 2) (x := .slice D k dc) rfl
                      have p0f := HE1.out.prow.free 0
                      have p1f := HE1.out.prow.free 1
                      have p2f := HE1.out.prow.free 2))
                  | (go_at_call 169; (with_reducible refine (HZ0.out _).mono ?_); rintro e _ ⟨rfl, rfl⟩)
                  | (go_at_call 170; (with_reducible refine HTK.out.mono ?_); rintro e' w4 ⟨rfl, hk4, E4, hq4, hm4, h84, hl4⟩; (
                      have HI4 := Lib.hid (HE1.out.step hk4 hq4 h84)
                      have HM4 := Lib.hid (hm4.trans HEL.out)
                      have HL4 := Lib.hid hl4
                      have hre := HRE.out.kr hk4 not34.2.2.1
                      clear hk4 hq4 hm4 h84 hl4 p0 p1 p2 p0f p1f p2f
                      have p0 := HI4.out.prow.read (i := 0) (x := .int .i64 fi) rfl
                      have p1 := HI4.out.prow.read (i := 1) (x := .slice A k c) rfl
                      have p2 := HI4.out.prow.read (i := 2) (x := .slice D k dc) rfl
                      have p0f := HI4.out.prow.free 0
                      have p1f := HI4.out.prow.free 1
                      have p2f := HI4.out.prow.free 2
                      have hre2 := hre
                      have HI5 := HI4
                      obtain ⟨A5, c5, w5, hrun5, hr5, hi5⟩ := HI5.out.addRow ⟨some ⟨e.g, e.tk, none⟩, e.c - e.tk, t.bs.take nn⟩ (by rw [HLK.out]; omega) hre2
                      unfold RowB.v at hrun5
                      rw [HLK.out] at hrun5 hi5
                      simp only [HTN.out] at hrun5
                      have HI6 := Lib.hid hi5
                      have y0 := hr5.read (i := 0) (x := .int .i64 fi) rfl
                      have y0f := hr5.free 0
                      have y1f := hr5.free 1
                      have y1 := hr5.read (i := 1) (x := .slice A k c) rfl
                      have y2 := hr5.read (i := 2) (x := .slice D k dc) rfl
                      have z0 := HI6.out.prow.read (i := 0) (x := .int .i64 fi) rfl
                      have z0f := HI6.out.prow.free 0
                      have HI7 := Lib.hid (HI6.out.setfi (fi + 1))
                      have e0 := HI7.out.prow.read (i := 0) (x := .int .i64 (fi + 1)) rfl
                      have e1 := HI7.out.prow.read (i := 1) (x := .slice A5 (k + 1) c5) rfl
                      have e2 := HI7.out.prow.read (i := 2) (x := .slice D k dc) rfl
                      have e0f := HI7.out.prow.free 0
                      have e1f := HI7.out.prow.free 1
                      have e2f := HI7.out.prow.free 2
                      have h0 := HI7.out.res.free 0
                      have h1 := HI7.out.res.free 1
                      have h2 := HI7.out.res.free 2
                      have k0 := HI7.out.res.read (i := 0) (x := .int .i64 0) rfl
                      have k1 := HI7.out.res.read (i := 1) (x := .slice none 0 0) rfl
                      have k2 := HI7.out.res.read (i := 2) (x := .slice none 0 0) rfl
                      clear hi5 hr5 hre hre2))
                  | (at_builtin; refine wpList_is rfl (.tmp 80) (.tmp 82) 48 rfl _ _ (by rfl) (by rfl) hrun5 ?_))
                try simp only [Exit.jump]
                obtain ⟨d24, hu24⟩ := underrpc_parts
                refine bodyPost_ret (results_two rfl _ _ w.heap.size 151 #[.int .i64 (fi + 1), .slice A5 (k + 1) c5, .slice D k dc] d24 rfl (((HI7.out.res.written 0 (.int .i64 (fi + 1))).written 1 (.slice A5 (k + 1) c5)).written 2 (.slice D k dc)) hu24 Try.inforpcs) rfl ?_
                refine rcut_some HBL.out (.inr (by omega)) (fiT_more HT.out HFI.out (by omega) HNB.out) ?_ (by rw [HL4.out, txR_some HT.out hn1]) HM4.out (by rw [List.length_append, HLK.out]; rfl) (by omega) HI7.out (only3 _ _ _ _ _)
                unfold fieldsT
                rw [if_neg (by omega), ← List.map_take, ← HTX.out, List.getD_eq_getElem?_getD, List.getElem?_map, HT.out]
                simp [texts]
          · have hl4 : ¬ (lf < (t.bs.length : Int)) := by omega
            have HWN := Lib.hid (show ∀ i l, i < k + 1 → (lenT ts)[i]? = some l → nextF l ((lenT ts).take i) room 15 = l from fun i l hi hl => by
              rcases Nat.lt_or_ge i k with h9 | h9
              · exact HWH.out i l h9 hl
              · obtain rfl : i = k := by omega
                rw [lenT_at HT.out] at hl
                injection hl with hl
                rw [← hl, HNX.out]
                omega)
            have hwu : IntKind.i64.wrap ((used : Int) + (t.bs.length : Int)) = ((used + t.bs.length : Nat) : Int) := by rw [IntWalk.i64_in _ (by omega)]; omega
            by_cases hbk : t.bg = true ∧ k = 0
            · obtain ⟨hbg, hk0⟩ := hbk
              subst hk0
              have HZ0 : Hid (∀ W : World, Calls Try.prog 169 #[.int .i64 0, .int .i64 15] W fun e w' => e = .returned (.int .i64 z) ∧ W = w') := HZ0
              rw [hbg] at HFR
              go_wp2_with (first
                | (go_at_call 168; (with_reducible refine HFR.out.mono ?_); rintro e' w1 ⟨rfl, hb1⟩; (
                    have HE1 := Lib.hid (HI.out.later hb1)
                    have HTK := Lib.hid (dq_all HE1.out.q HE1.out.base.1 HE1.out.b8 HH.out)
                    have HRE := Lib.hid (HH.out.ent HE1.out.q HE1.out.b8 t.bs.length (Nat.le_refl _))
                    clear p0 p1 p2 p0f p1f p2f g0 g1 g2 d0 d1 d2 hb1
                    have p0 := HE1.out.prow.read (i := 0) (x := .int .i64 fi) rfl
                    have p1 := HE1.out.prow.read (i := 1) (x := .slice A 0 c) rfl
                    have p2 := HE1.out.prow.read (i := 2) (x := .slice D 0 dc) rfl
                    have p0f := HE1.out.prow.free 0
                    have p1f := HE1.out.prow.free 1
                    have p2f := HE1.out.prow.free 2))
                | (go_at_call 169; (with_reducible refine (HZ0.out _).mono ?_); rintro e _ ⟨rfl, rfl⟩)
                | (go_at_call 170; (with_reducible refine HTK.out.mono ?_); rintro e' w4 ⟨rfl, hk4, E4, hq4, hm4, h84, hl4⟩; (
                    have HI4 := Lib.hid (HE1.out.step hk4 hq4 h84)
                    have HM4 := Lib.hid (hm4.trans HEL.out)
                    have HL4 := Lib.hid hl4
                    have hre := HRE.out.kr hk4 not34.2.2.1
                    clear hk4 hq4 hm4 h84 hl4 p0 p1 p2 p0f p1f p2f
                    rw [List.take_length] at hre
                    have p0 := HI4.out.prow.read (i := 0) (x := .int .i64 fi) rfl
                    have p1 := HI4.out.prow.read (i := 1) (x := .slice A 0 c) rfl
                    have p2 := HI4.out.prow.read (i := 2) (x := .slice D 0 dc) rfl
                    have p0f := HI4.out.prow.free 0
                    have p1f := HI4.out.prow.free 1
                    have p2f := HI4.out.prow.free 2
                    have hre2 := HI4.out.ent_set hre 0 (.int .i64 2)
                    have HI5 := Lib.hid (HI4.out.setfi 2)
                    have x0 := HI5.out.prow.read (i := 0) (x := .int .i64 2) rfl
                    have x1 := HI5.out.prow.read (i := 1) (x := .slice A 0 c) rfl
                    have x2 := HI5.out.prow.read (i := 2) (x := .slice D 0 dc) rfl
                    have x0f := HI5.out.prow.free 0
                    have x1f := HI5.out.prow.free 1
                    have x2f := HI5.out.prow.free 2
                    obtain ⟨A5, c5, w5, hrun5, hr5, hi5⟩ := HI5.out.addRow ⟨some ⟨e.g, e.tk, none⟩, e.c - e.tk, t.bs⟩ (by rw [HLK.out]; omega) hre2
                    unfold RowB.v at hrun5
                    rw [show (w4.setCell ⟨w.heap.size + 1, 0, none⟩ (.int .i64 2)).heap.size = w4.heap.size by simp] at hrun5
                    rw [HLK.out] at hrun5 hi5
                    have HI6 := Lib.hid hi5
                    have y0 := hr5.read (i := 0) (x := .int .i64 2) rfl
                    have y0f := hr5.free 0
                    have y1f := hr5.free 1
                    have y1 := hr5.read (i := 1) (x := .slice A 0 c) rfl
                    have y2 := hr5.read (i := 2) (x := .slice D 0 dc) rfl
                    obtain ⟨A6, c6, w6, hrun6, hr6, hi6⟩ := HI6.out.addId t.id (by rw [HIL.out]; omega)
                    rw [HIL.out] at hrun6 hi6
                    rw [show (w5.setCell ⟨w.heap.size + 1, 1, none⟩ (.slice A5 (0 + 1) c5)).heap.size = w5.heap.size by simp] at hrun6
                    have HI7 := Lib.hid hi6
                    have y3 := HI6.out.prow.read (i := 2) (x := .slice D 0 dc) rfl
                    have y2f := hr6.free 2
                    have y4 := hr6.read (i := 2) (x := .slice D 0 dc) rfl
                    clear hi5 hi6 hr5 hr6 hre hre2))
                | (at_builtin; refine wpList_is rfl (.tmp 80) (.tmp 82) 48 rfl _ _ (by rfl) (by rfl) hrun5 ?_)
                | (at_builtin; refine wpList_is rfl (.tmp 95) (.tmp 97) 39 rfl _ _ (by rfl) (by rfl) hrun6 ?_))
              go_roundw
              case rel => exact ⟨0 + 1, used + t.bs.length, 2, A5, c5, A6, c6, L ++ [⟨some ⟨e.g, e.tk, none⟩, e.c - e.tk, t.bs⟩], E4, by omega, by have := HKL.out; omega, by go_num, by omega, by omega, Lib.hid (by rw [lenT_sum_succ HT.out, HUS.out]), Lib.hid (by rw [if_neg (by omega), headBg_0 HT.out, hbg]; rfl), Lib.hid (by rw [List.length_append, HLK.out]; rfl), Lib.hid (by rw [HTS.out, List.map_append]; exact HI7.out), Lib.hid (by rw [HTS.out, List.map_append, ← HTX.out]; simp [texts]), HL4, HM4, Lib.hid HWN.out⟩
              case measure => simp [intOf]; omega
            · have HNB := Lib.hid (show t.bg = true → k = 0 → False from fun a b => hbk ⟨a, b⟩)
              clear hbk
              cases hbg : t.bg
              · rw [hbg] at HFR
                go_wp2_with (first
                  | (go_at_call 168; (with_reducible refine HFR.out.mono ?_); rintro e' w1 ⟨rfl, hb1⟩; (
                      have HE1 := Lib.hid (HI.out.later hb1)
                      have HTK := Lib.hid (dq_all HE1.out.q HE1.out.base.1 HE1.out.b8 HH.out)
                      have HRE := Lib.hid (HH.out.ent HE1.out.q HE1.out.b8 t.bs.length (Nat.le_refl _))
                      clear p0 p1 p2 p0f p1f p2f g0 g1 g2 d0 d1 d2 hb1
                      have p0 := HE1.out.prow.read (i := 0) (x := .int .i64 fi) rfl
                      have p1 := HE1.out.prow.read (i := 1) (x := .slice A k c) rfl
                      have p2 := HE1.out.prow.read (i := 2) (x := .slice D k dc) rfl
                      have p0f := HE1.out.prow.free 0
                      have p1f := HE1.out.prow.free 1
                      have p2f := HE1.out.prow.free 2))
                  | (go_at_call 169; (with_reducible refine (HZ0.out _).mono ?_); rintro e _ ⟨rfl, rfl⟩)
                  | (go_at_call 170; (with_reducible refine HTK.out.mono ?_); rintro e' w4 ⟨rfl, hk4, E4, hq4, hm4, h84, hl4⟩; (
                      have HI4 := Lib.hid (HE1.out.step hk4 hq4 h84)
                      have HM4 := Lib.hid (hm4.trans HEL.out)
                      have HL4 := Lib.hid hl4
                      have hre := HRE.out.kr hk4 not34.2.2.1
                      clear hk4 hq4 hm4 h84 hl4 p0 p1 p2 p0f p1f p2f
                      rw [List.take_length] at hre
                      have p0 := HI4.out.prow.read (i := 0) (x := .int .i64 fi) rfl
                      have p1 := HI4.out.prow.read (i := 1) (x := .slice A k c) rfl
                      have p2 := HI4.out.prow.read (i := 2) (x := .slice D k dc) rfl
                      have p0f := HI4.out.prow.free 0
                      have p1f := HI4.out.prow.free 1
                      have p2f := HI4.out.prow.free 2
                      have hre2 := hre
                      have HI5 := HI4
                      obtain ⟨A5, c5, w5, hrun5, hr5, hi5⟩ := HI5.out.addRow ⟨some ⟨e.g, e.tk, none⟩, e.c - e.tk, t.bs⟩ (by rw [HLK.out]; omega) hre2
                      unfold RowB.v at hrun5
                      rw [HLK.out] at hrun5 hi5
                      have HI6 := Lib.hid hi5
                      have y0 := hr5.read (i := 0) (x := .int .i64 fi) rfl
                      have y0f := hr5.free 0
                      have y1f := hr5.free 1
                      have y1 := hr5.read (i := 1) (x := .slice A k c) rfl
                      have y2 := hr5.read (i := 2) (x := .slice D k dc) rfl
                      obtain ⟨A6, c6, w6, hrun6, hr6, hi6⟩ := HI6.out.addId t.id (by rw [HIL.out]; omega)
                      rw [HIL.out] at hrun6 hi6
                      rw [show (w5.setCell ⟨w.heap.size + 1, 1, none⟩ (.slice A5 (k + 1) c5)).heap.size = w5.heap.size by simp] at hrun6
                      have HI7 := Lib.hid hi6
                      have y3 := HI6.out.prow.read (i := 2) (x := .slice D k dc) rfl
                      have y2f := hr6.free 2
                      have y4 := hr6.read (i := 2) (x := .slice D k dc) rfl
                      clear hi5 hi6 hr5 hr6 hre hre2))
                  | (at_builtin; refine wpList_is rfl (.tmp 80) (.tmp 82) 48 rfl _ _ (by rfl) (by rfl) hrun5 ?_)
                  | (at_builtin; refine wpList_is rfl (.tmp 95) (.tmp 97) 39 rfl _ _ (by rfl) (by rfl) hrun6 ?_))
                go_roundw
                case rel => exact ⟨k + 1, used + t.bs.length, fi, A5, c5, A6, c6, L ++ [⟨some ⟨e.g, e.tk, none⟩, e.c - e.tk, t.bs⟩], E4, by omega, by have := HKL.out; omega, by go_num, by omega, by omega, Lib.hid (by rw [lenT_sum_succ HT.out, HUS.out]), Lib.hid (fi_next HT.out HFI.out HNB.out), Lib.hid (by rw [List.length_append, HLK.out]; rfl), Lib.hid (by rw [HTS.out, List.map_append]; exact HI7.out), Lib.hid (by rw [HTS.out, List.map_append, ← HTX.out]; simp [texts]), HL4, HM4, Lib.hid HWN.out⟩
                case measure => simp [intOf]; omega
              · have hkz : ((k : Int) == 0) = false := by have := HNB.out hbg; simp; omega
                rw [hbg] at HFR
                go_wp2_with (first
                  | (go_at_call 168; (with_reducible refine HFR.out.mono ?_); rintro e' w1 ⟨rfl, hb1⟩; (
                      have HE1 := Lib.hid (HI.out.later hb1)
                      have HTK := Lib.hid (dq_all HE1.out.q HE1.out.base.1 HE1.out.b8 HH.out)
                      have HRE := Lib.hid (HH.out.ent HE1.out.q HE1.out.b8 t.bs.length (Nat.le_refl _))
                      clear p0 p1 p2 p0f p1f p2f g0 g1 g2 d0 d1 d2 hb1
                      have p0 := HE1.out.prow.read (i := 0) (x := .int .i64 fi) rfl
                      have p1 := HE1.out.prow.read (i := 1) (x := .slice A k c) rfl
                      have p2 := HE1.out.prow.read (i := 2) (x := .slice D k dc) rfl
                      have p0f := HE1.out.prow.free 0
                      have p1f := HE1.out.prow.free 1
                      have p2f := HE1.out.prow.free 2))
                  | (go_at_call 169; (with_reducible refine (HZ0.out _).mono ?_); rintro e _ ⟨rfl, rfl⟩)
                  | (go_at_call 170; (with_reducible refine HTK.out.mono ?_); rintro e' w4 ⟨rfl, hk4, E4, hq4, hm4, h84, hl4⟩; (
                      have HI4 := Lib.hid (HE1.out.step hk4 hq4 h84)
                      have HM4 := Lib.hid (hm4.trans HEL.out)
                      have HL4 := Lib.hid hl4
                      have hre := HRE.out.kr hk4 not34.2.2.1
                      clear hk4 hq4 hm4 h84 hl4 p0 p1 p2 p0f p1f p2f
                      rw [List.take_length] at hre
                      have p0 := HI4.out.prow.read (i := 0) (x := .int .i64 fi) rfl
                      have p1 := HI4.out.prow.read (i := 1) (x := .slice A k c) rfl
                      have p2 := HI4.out.prow.read (i := 2) (x := .slice D k dc) rfl
                      have p0f := HI4.out.prow.free 0
                      have p1f := HI4.out.prow.free 1
                      have p2f := HI4.out.prow.free 2
                      have hre2 := hre
                      have HI5 := HI4
                      obtain ⟨A5, c5, w5, hrun5, hr5, hi5⟩ := HI5.out.addRow ⟨some ⟨e.g, e.tk, none⟩, e.c - e.tk, t.bs⟩ (by rw [HLK.out]; omega) hre2
                      unfold RowB.v at hrun5
                      rw [HLK.out] at hrun5 hi5
                      have HI6 := Lib.hid hi5
                      have y0 := hr5.read (i := 0) (x := .int .i64 fi) rfl
                      have y0f := hr5.free 0
                      have y1f := hr5.free 1
                      have y1 := hr5.read (i := 1) (x := .slice A k c) rfl
                      have y2 := hr5.read (i := 2) (x := .slice D k dc) rfl
                      obtain ⟨A6, c6, w6, hrun6, hr6, hi6⟩ := HI6.out.addId t.id (by rw [HIL.out]; omega)
                      rw [HIL.out] at hrun6 hi6
                      rw [show (w5.setCell ⟨w.heap.size + 1, 1, none⟩ (.slice A5 (k + 1) c5)).heap.size = w5.heap.size by simp] at hrun6
                      have HI7 := Lib.hid hi6
                      have y3 := HI6.out.prow.read (i := 2) (x := .slice D k dc) rfl
                      have y2f := hr6.free 2
                      have y4 := hr6.read (i := 2) (x := .slice D k dc) rfl
                      clear hi5 hi6 hr5 hr6 hre hre2))
                  | (at_builtin; refine wpList_is rfl (.tmp 80) (.tmp 82) 48 rfl _ _ (by rfl) (by rfl) hrun5 ?_)
                  | (at_builtin; refine wpList_is rfl (.tmp 95) (.tmp 97) 39 rfl _ _ (by rfl) (by rfl) hrun6 ?_))
                go_roundw
                case rel => exact ⟨k + 1, used + t.bs.length, fi, A5, c5, A6, c6, L ++ [⟨some ⟨e.g, e.tk, none⟩, e.c - e.tk, t.bs⟩], E4, by omega, by have := HKL.out; omega, by go_num, by omega, by omega, Lib.hid (by rw [lenT_sum_succ HT.out, HUS.out]), Lib.hid (fi_next HT.out HFI.out HNB.out), Lib.hid (by rw [List.length_append, HLK.out]; rfl), Lib.hid (by rw [HTS.out, List.map_append]; exact HI7.out), Lib.hid (by rw [HTS.out, List.map_append, ← HTX.out]; simp [texts]), HL4, HM4, Lib.hid HWN.out⟩
                case measure => simp [intOf]; omega
      · have HFR := Lib.hid (rq_front_none HI.out.q (empty_of (by rw [HLV.out, List.drop_eq_nil_of_le (by omega)])))
        have HBL := Lib.hid (show Bld room 15 (lenT ts) k (nextF 0 ((lenT ts).take k) room 15) from ⟨by rw [length_lenT]; omega, HWH.out, by rw [lenT_d0 (by omega)], .inl (by rw [HNX.out]; omega)⟩)
        have HN0 := Lib.hid (show nextF 0 ((lenT ts).take k) room 15 ≤ 0 by rw [HNX.out]; omega)
        generalize nextF 0 ((lenT ts).take k) room 15 = n at HBL HN0
        have HE1 := HI
        rcases Nat.eq_zero_or_pos k with hk0 | hk0
        · subst hk0
          have HZ0 : Hid (∀ W : World, Calls Try.prog 169 #[.int .i64 0, .int .i64 15] W fun e w' => e = .returned (.int .i64 z) ∧ W = w') := HZ0
          go_wp2_with (first
            | (go_at_call 168; (with_reducible refine HFR.out.mono ?_); rintro e' _ ⟨rfl, rfl⟩)
            | (go_at_call 169; (with_reducible refine (HZ0.out _).mono ?_); rintro e _ ⟨rfl, rfl⟩))
          try simp only [Exit.jump]
          obtain ⟨d24, hu24⟩ := underrpc_parts
          refine bodyPost_ret (results_two rfl _ _ w.heap.size 151 #[.int .i64 0, .slice none 0 0, .slice none 0 0] d24 rfl (((HE1.out.res.written 0 (.int .i64 0)).written 1 (.slice none 0 0)).written 2 (.slice none 0 0)) hu24 Try.inforpcs) rfl ?_
          exact rcut_none HBL.out HN0.out HLV.out HEL.out HE1.out (only3 _ _ _ _ _)
        · have hkz : ((k : Int) == 0) = false := by simp; omega
          go_wp2_with (first
            | (go_at_call 168; (with_reducible refine HFR.out.mono ?_); rintro e' _ ⟨rfl, rfl⟩)
            | (go_at_call 169; (with_reducible refine (HZ0.out _).mono ?_); rintro e _ ⟨rfl, rfl⟩))
          try simp only [Exit.jump]
          obtain ⟨d24, hu24⟩ := underrpc_parts
          refine bodyPost_ret (results_two rfl _ _ w.heap.size 151 #[.int .i64 fi, .slice A k c, .slice D k dc] d24 rfl (((HE1.out.res.written 0 (.int .i64 fi)).written 1 (.slice A k c)).written 2 (.slice D k dc)) hu24 Try.inforpcs) rfl ?_
          exact rcut_some HBL.out (.inl hk0) (by rw [fiT_zero rfl HN0.out, HFI.out, if_neg (by omega)]) (fieldsT_zero HN0.out HTX.out) (by rw [HLV.out, txR_zero HN0.out]) HEL.out HLK.out (by omega) HE1.out (only3 _ _ _ _ _)
    · obtain rfl : k = 24 := by omega
      have HBL := Lib.hid (show Bld room 15 (lenT ts) 24 (nextF ((lenT ts).getD 24 0) ((lenT ts).take 24) room 15) from ⟨by rw [length_lenT]; omega, HWH.out, rfl, .inl (by rw [nextF_end HKL.out]; omega)⟩)
      have HN0 := Lib.hid (show nextF ((lenT ts).getD 24 0) ((lenT ts).take 24) room 15 ≤ 0 by rw [nextF_end HKL.out]; omega)
      generalize nextF ((lenT ts).getD 24 0) ((lenT ts).take 24) room 15 = n at HBL HN0
      have HE1 := HI
      go_wp2
      try simp only [Exit.jump]
      obtain ⟨d24, hu24⟩ := underrpc_parts
      refine bodyPost_ret (results_two rfl _ _ w.heap.size 151 #[.int .i64 fi, .slice A 24 c, .slice D 24 dc] d24 rfl (((HE1.out.res.written 0 (.int .i64 fi)).written 1 (.slice A 24 c)).written 2 (.slice D 24 dc)) hu24 Try.inforpcs) rfl ?_
      exact rcut_some HBL.out (.inl (by omega)) (by rw [fiT_zero rfl HN0.out, HFI.out, if_neg (by omega)]) (fieldsT_zero HN0.out HTX.out) (by rw [HLV.out, txR_zero HN0.out]) HEL.out HLK.out (by omega) HE1.out (only3 _ _ _ _ _)
end Go.Proofs.Ytjonkpdjhjobfaa
