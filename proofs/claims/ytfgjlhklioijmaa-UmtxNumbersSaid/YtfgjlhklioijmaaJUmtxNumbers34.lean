/-
  glue: what one field of a packet does. glue: all fields of a packet, one by one. glue: what may not be. glue: fields are put together.
-/
import Derived.Test.YtfgjlhklioijmaaJUmtxNumbers33
namespace Go.Proofs.Ytfgjlhklioijmaa
open Go.RowKit

theorem Only.draw {w : World} {S : Nat → Prop} : Only S w w.drew := Only.drew (Only.refl _ _)
theorem told_tail {B C p gb tb n c : Nat} {A : Option Addr} {w : World} {tv : Value} {s : GS} {L : List RowB} (h : GInv B C p gb tb w (.slice A n c) tv s L) (hn : s.held.length = n) (h0 : 0 < n) (hL : L.length ≤ 1000) (hC : C ≤ w.heap.size) :
    ∃ g' c' w2, (Builtin.append_ #[22, 22] 22 #[tv, .slice (some ⟨w.heap.size, 0, none⟩) 1 1]).run Try.prog ((w.alloc (.cells #[.slice A n n] 30)).drew) = .ok (.slice (some ⟨g', 0, none⟩) (L.length + 1) c') w2 ∧
      Row w2 tb 22 #[tv] ∧ Row w2 gb 162 #[.pointer (some ⟨p, 0, none⟩)] ∧ Row w2 p 266 #[.bool true, .slice A n c, .int .i64 s.lost] ∧
      GInv B C p gb tb ((w2.setCell ⟨tb, 0, none⟩ (.slice (some ⟨g', 0, none⟩) (L.length + 1) c')).setCell ⟨p, 1, none⟩ (.slice none 0 0)) (.slice none 0 0) (.slice (some ⟨g', 0, none⟩) (L.length + 1) c') ⟨[], s.lost⟩ (L ++ [⟨A, n, s.held⟩]) ∧
      Only (GS2 p tb (.slice A n c) tv) w ((w2.setCell ⟨tb, 0, none⟩ (.slice (some ⟨g', 0, none⟩) (L.length + 1) c')).setCell ⟨p, 1, none⟩ (.slice none 0 0)) ∧ GNext w tv (.slice (some ⟨g', 0, none⟩) (L.length + 1) c') := by
  obtain ⟨a1, a2, a3, a4, a5⟩ := h
  obtain ⟨i0, hi, hi0, hi1, hi2⟩ := info_parts Try.info30
  have hbA := bl_drew (bl_alloc (Below.refl w.heap.size w) (.cells #[.slice A n n] 30))
  have ho0 : Only (GS2 p tb (.slice A n c) tv) w (w.alloc (.cells #[.slice A n n] 30)).drew := Only.of_below hbA
  have a4' := own_later2 a4 hbA
  obtain ⟨v', w2, hrun, hown, hgr, _, hat⟩ := run_append_own_at (P := Try.prog) (w := (w.alloc (.cells #[.slice A n n] 30)).drew) C 22 22 30 i0 _ 1 24 Try.underlying22 hi hi0 hi1 hi2 rfl (by omega) tv L.length (L.map RowB.v) a4' ⟨w.heap.size, 0, none⟩ 1 1 [.slice A n n] rfl
    (fun j u hu => by
      match j, hu with
      | 0, hu =>
        simp only [List.getElem?_cons_zero, Option.some.injEq] at hu
        subst hu
        rw [add_pl]
        exact (Row.made w 30 #[.slice A n n]).drawn.read rfl
      | j + 1, hu => simp at hu) (by intro u hu; simp at hu; subst hu; rfl) (by unfold maxLen; omega) (by omega) (by have := hbA.size; omega)
  have hon1 : Only (fun k => tv.ownBlock = some k) (w.alloc (.cells #[.slice A n n] 30)).drew w2 := (Only.refl _ _).grown hgr (fun k hk => .inl hk)
  have n1 : ∀ {g : Nat} {t : TypeId} {cs : Array Value}, Row w g t cs → t ≠ 30 → tv.ownBlock ≠ some g := fun hr hne => own_apart a4 hr (fun e => hne e.symm)
  have r1 : Row w2 p 266 #[.bool true, .slice A n c, .int .i64 s.lost] := (a1.1.later hbA).only hon1 (n1 a1.1 (by decide))
  have r2 : Row w2 gb 162 #[.pointer (some ⟨p, 0, none⟩)] := (a2.later hbA).only hon1 (n1 a2 (by decide))
  have r3 : Row w2 tb 22 #[tv] := (a3.later hbA).only hon1 (n1 a3 (by decide))
  have ho1 : Only (GS2 p tb (.slice A n c) tv) w w2 := ho0.andThen hon1 (fun k _ hk => .inr (.inr hk))
  obtain ⟨g', c', ev⟩ : ∃ g' c', v' = .slice (some ⟨g', 0, none⟩) (L.length + 1) c' := by
    rcases hown.2 with ⟨_, e⟩ | ⟨g, cap, cur, e, _⟩
    · omega
    · exact ⟨g, cap, e⟩
  subst ev
  have p1 : p ≠ tb := a1.1.apart a3 (by decide)
  have p2 : gb ≠ tb := a2.apart a3 (by decide)
  have p3 : gb ≠ p := a2.apart a1.1 (by decide)
  have hgn : GNext w tv (.slice (some ⟨g', 0, none⟩) (L.length + 1) c') := by
    intro k hk
    rcases hat with e | e
    · exact .inl (by rw [← e]; exact hk)
    · rw [e] at hk
      injection hk with hk
      have := hbA.size
      exact .inr (by omega)
  have ho2 : Only (GS2 p tb (.slice A n c) tv) w ((w2.setCell ⟨tb, 0, none⟩ (.slice (some ⟨g', 0, none⟩) (L.length + 1) c')).setCell ⟨p, 1, none⟩ (.slice none 0 0)) :=
    (ho1.set (p := ⟨tb, 0, none⟩) (.inl (.inr (.inl rfl))) _).set (p := ⟨p, 1, none⟩) (.inl (.inl (.inl rfl))) _
  have hset : Only (fun k => k = tb ∨ k = p) w2 ((w2.setCell ⟨tb, 0, none⟩ (.slice (some ⟨g', 0, none⟩) (L.length + 1) c')).setCell ⟨p, 1, none⟩ (.slice none 0 0)) :=
    ((Only.refl _ _).set (p := ⟨tb, 0, none⟩) (.inl (.inl rfl)) _).set (p := ⟨p, 1, none⟩) (.inl (.inr rfl)) _
  obtain ⟨A9, c9, e9, q1, q2⟩ := a1.2.form
  injection e9 with e91 e92 e93
  subst e91 e93
  unfold maxLen at q2
  obtain ⟨g, cur, rfl, hBg, hg⟩ : ∃ g cur, A = some ⟨g, 0, none⟩ ∧ B ≤ g ∧ Row w g 5 cur ∧ ∀ (j b : Nat), s.held[j]? = some b → cur[j]? = some (Value.int .u8 (b : Nat)) := by
    rcases a1.2.2 with ⟨e, _⟩ | ⟨g, cap, cur, e, k1, k2, k3, k4, k5, k6⟩
    · injection e with _ e; omega
    · injection e with e1 e2 e3
      refine ⟨g, cur, e1, k1, k2, fun j b hb => ?_⟩
      have h9 := bts_at hb
      rw [← k6, List.getElem?_take] at h9
      split at h9
      · simpa using h9
      · cases h9
  have tok : ∀ r : RowB, TOk B w (.slice (some ⟨g, 0, none⟩) n c) r → TOk B ((w2.setCell ⟨tb, 0, none⟩ (.slice (some ⟨g', 0, none⟩) (L.length + 1) c')).setCell ⟨p, 1, none⟩ (.slice none 0 0)) (.slice none 0 0) r := fun r hr => by
    have s1 := hr.step (v := w2) (S := GS2 p tb (.slice (some ⟨g, 0, none⟩) n c) tv) ho1 (fun g cs h6 h7 hx => by
      rcases hx with (hx | hx) | hx | hx
      · exact h6.apart a1.1 (by decide) hx
      · exact h7 hx
      · exact h6.apart a3 (by decide) hx
      · exact n1 h6 (by decide) hx) (GNext.refl _ _)
    exact s1.step hset (fun g cs h6 _ hx => by
      rcases hx with hx | hx
      · exact h6.apart r3 (by decide) hx
      · exact h6.apart r1 (by decide) hx) (GNext.nil _ _)
  refine ⟨g', c', w2, hrun, r3, r2, r1, ⟨⟨(r1.elsewhere p1 _).written 1 _, ownY_nil _ _⟩, (r2.elsewhere p2 _).elsewhere p3 _, (r3.written 0 _).elsewhere p1.symm _, ?_, fun r hr => ?_⟩, ho2, hgn⟩
  · rw [List.length_append, List.map_append]
    have e : ([⟨some ⟨g, 0, none⟩, n, s.held⟩] : List RowB).map RowB.v = [.slice (some ⟨g, 0, none⟩) n n] := by simp [RowB.v, hn]
    rw [e]
    exact own_only hown hset (fun k hk hx => by
      rcases hx with hx | hx
      · subst hx; exact own_apart hown r3 (by decide) hk
      · subst hx; exact own_apart hown r1 (by decide) hk)
  · rw [List.mem_append, List.mem_singleton] at hr
    rcases hr with hr | rfl
    · exact tok r (a5 r hr)
    · refine ⟨g, cur, rfl, hBg, by simp [Value.ownBlock], by show s.held.length ≤ n; omega, by show n ≤ _; omega, ?_, hg.2⟩
      refine ((hg.1.later hbA).only hon1 (n1 hg.1 (by decide))).only hset (fun hx => ?_)
      have hgr := (hg.1.later hbA).only hon1 (n1 hg.1 (by decide))
      rcases hx with hx | hx
      · exact hgr.apart r3 (by decide) hx
      · exact hgr.apart r1 (by decide) hx

theorem told_no {s : GS} (h : s.held = []) (e : Bool) : s.told e = (s, []) := by
  unfold GS.told
  rw [if_pos h]
  cases e <;> rfl
theorem told_yes {s : GS} (h : s.held ≠ []) : s.told true = (⟨[], s.lost⟩, [s.held]) := by
  unfold GS.told
  rw [if_neg h]
  rfl
theorem GInv.draw {B C p gb tb : Nat} {w : World} {hv tv : Value} {s : GS} {L : List RowB} (h : GInv B C p gb tb w hv tv s L) : GInv B C p gb tb w.drew hv tv s L := h
set_option maxRecDepth 100000 in
set_option maxHeartbeats 1600000 in
theorem put1_any {B C p gb tb : Nat} {w : World} {hv tv : Value} {s : GS} {L : List RowB} {F : Option Addr} {f : List Nat} (b e : Bool) (m fc : Nat) (h : GInv B C p gb tb w hv tv s L) (hlost : s.lost ≤ 1000000) (hB : B ≤ w.heap.size) (hC : C ≤ w.heap.size) (hL : L.length ≤ 1000) (hs : ∀ W, Only (fun k => k = p) w W → Src W F (bts f)) (hm : f.length = m) (hm1 : m ≤ 9223372036854775807) (hm2 : b = false → m ≤ 100000) (hl : s.held.length ≤ 1000) :
    Calls Try.prog 202 #[.slice F m fc, .bool b, .bool e, .pointer (some ⟨gb, 0, none⟩), .pointer (some ⟨tb, 0, none⟩)] w (PutStep B C p gb tb hv tv ((s.come f b e).told e).1 L ((s.come f b e).told e).2 w) := by
  have HC := Lib.hid (gcome_any b e m fc h.1 hlost hB hs hm hm1 hm2 hl)
  have HH := Lib.hid h
  have g0 : w.cell? ⟨gb, 0, none⟩ = some (.pointer (some ⟨p, 0, none⟩)) := h.2.1.read rfl
  generalize s.come f b e = s1 at *
  clear h hs hm hlost hm2
  go_enter Try.func202, Try.ntmps202
  go_wp2_with fail
  refine (HC.out).mono ?_
  rintro e1 w1 ⟨rfl, hv1, h1, ho1, hg1⟩
  have hi1 := HH.out.come h1 ho1 hg1
  have hC1 := Nat.le_trans hC ho1.size
  have HO1 := Lib.hid (ho1.weaker (T := GS2 p tb hv tv) (fun k _ hk => .inl hk))
  have HG1 := Lib.hid hg1
  obtain ⟨A, c, rfl, q1, q2⟩ := h1.2.form
  unfold maxLen at q2
  have k0 : w1.cell? ⟨gb, 0, none⟩ = some (.pointer (some ⟨p, 0, none⟩)) := hi1.2.1.read rfl
  have k1 := h1.1.read (i := 1) rfl
  have HI1 := Lib.hid hi1
  clear hi1 h1 ho1 hg1 HC
  cases e
  · have HE := Lib.hid (show PutStep B C p gb tb hv tv (s1.told false).1 L (s1.told false).2 w (.returned (.tuple #[])) w1 from ⟨rfl, _, tv, L, HI1.out, by simp [GS.told], HO1.out, HG1.out, GNext.refl _ _, hC1⟩)
    go_wp2
    go_end0
    exact HE.out
  · by_cases h0 : s1.held = []
    · have HE := Lib.hid (show PutStep B C p gb tb hv tv (s1.told true).1 L (s1.told true).2 w (.returned (.tuple #[])) w1 from by rw [told_no h0]; exact ⟨rfl, _, tv, L, HI1.out, by simp, HO1.out, HG1.out, GNext.refl _ _, hC1⟩)
      have hd : decide ((0 : Int) < (s1.held.length : Int)) = false := decide_eq_false (by rw [h0]; simp)
      have h0' : s1.held.length ≤ 0 := by rw [h0]; simp
      clear h0
      go_wp2
      go_end0
      exact HE.out
    · have HT := Lib.hid (told_yes h0)
      obtain ⟨n, hn⟩ : ∃ n, s1.held.length = n := ⟨_, rfl⟩
      have hn0 : 0 < n := by rw [← hn]; exact List.length_pos_iff.2 h0
      rw [hn] at q1 k1 HI1 HG1
      obtain ⟨g', c', w2, hrun, r3, r2, r1, hi3, ho3, hg3⟩ := told_tail HI1.out hn hn0 hL hC1
      have hd : (0 : Int) < (n : Int) := by omega
      have t0 : w1.cell? ⟨tb, 0, none⟩ = some tv := HI1.out.2.2.1.read rfl
      have t1 : (w1.alloc (.cells #[.slice A n n] 30)).cell? ⟨tb, 0, none⟩ = some tv := (HI1.out.2.2.1.more _).read rfl
      have x0 : w2.cell? ⟨tb, 0, none⟩ = some tv := r3.read rfl
      have x1 := r3.free 0
      have p1 : p ≠ tb := r1.apart r3 (by decide)
      have p2 : gb ≠ tb := r2.apart r3 (by decide)
      have y0 : (w2.setCell ⟨tb, 0, none⟩ (.slice (some ⟨g', 0, none⟩) (L.length + 1) c')).cell? ⟨gb, 0, none⟩ = some (.pointer (some ⟨p, 0, none⟩)) := (r2.elsewhere p2 _).read rfl
      have y1 := (r1.elsewhere (p := ⟨tb, 0, none⟩) p1 (.slice (some ⟨g', 0, none⟩) (L.length + 1) c')).read (i := 1) rfl
      have y2 := (r1.elsewhere (p := ⟨tb, 0, none⟩) p1 (.slice (some ⟨g', 0, none⟩) (L.length + 1) c')).free 1
      have HE := Lib.hid (show PutStep B C p gb tb hv tv (s1.told true).1 L (s1.told true).2 w (.returned (.tuple #[])) _ from by
        rw [HT.out]
        refine ⟨rfl, _, _, _, hi3, ?_, ?_, GNext.nil _ _, ?_, ?_⟩
        · simp [texts]
        · refine HO1.out.andThen ho3 (fun k hk hx => ?_)
          rcases hx with (hx | hx) | hx
          · exact .inl (.inl hx)
          · rcases HG1.out k hx with h9 | h9
            · exact .inl (.inr h9)
            · omega
          · exact .inr hx
        · intro k hk
          rcases hg3 k hk with h9 | h9
          · exact .inl h9
          · exact .inr (Nat.le_trans HO1.out.size h9)
        · exact Nat.le_trans hC1 ho3.size)
      clear hi3 ho3 hg3 HT h0 HI1 HO1 HG1 r1 r2 r3 HH hn
      have hcl := fun W => clipb_any (A := A) n c W q1
      go_wp2
      go_region_law (first
        | (go_simp; go_at_call 204; refine (hcl _).mono ?_; rintro e2 wx ⟨rfl, rfl⟩; go_simp)
        | (refine step_run rfl (.tmp 22) (.tmp 28) 22 rfl tv (.slice (some ⟨w1.heap.size, 0, none⟩) 1 1) (by rfl) (by rfl) hrun ?_))
      all_goals
        go_wp2
        go_end0
        exact HE.out
end Go.Proofs.Ytfgjlhklioijmaa
namespace Go.Proofs.Ytfgjlhklioijmaa
open Go.RowKit

set_option maxRecDepth 100000 in
set_option maxHeartbeats 1600000 in
theorem geach_any {caps : Array Value} {A : Option Addr} {L : List RowB} (fi n cap : Nat) (hfi : fi ≤ 3) (Inv : Nat → World → Prop) (w : World) (hL : L.length = n) (hn0 : 0 < n) (hn : n ≤ 1000) (h0 : Inv 0 w)
    (hsrc : ∀ k W, Inv k W → RSrc W A L)
    (hstep : ∀ k W r, L[k]? = some r → Inv k W → Calls Try.prog 202 (#[.slice r.A r.bs.length r.cap, .bool (beg fi k), .bool (fin fi n k)] ++ caps) W fun e W' => e = .returned (.tuple #[]) ∧ Inv (k + 1) W') :
    Calls Try.prog 201 #[.int .i64 fi, .slice A n cap, .func (.func 202) #[] caps] w fun e w' => e = .returned (.tuple #[]) ∧ Inv n w' := by
  have hcf := fun (args : Array Value) (w : World) => enters Try.func202 (by kernel_rfl) rfl args w
  have HR := Lib.hid hsrc
  have HS := Lib.hid hstep
  have H0 := Lib.hid h0
  have HL := Lib.hid hL
  clear hsrc hstep h0 hL
  go_enter Try.func201, Try.ntmps201
  go_wp2
  refine wp_scope_jumps 0 (fun a' w' => ∃ k : Nat, 0 < k ∧ k ≤ n ∧ Fr [some (.int .i64 fi), some (.slice A n cap), some (.func (.func 202) #[] caps), none, none, none, some (.int .i64 ((n : Int) - 1)), some (.int .i64 k), none, none, none, none, none, none, none, none, none, none, none, none, none, none, none, none, none, none, none, none, none, none, none, none, none, none, none, none, none] a' ∧ Inv k w') (fun a' _ => n - (intOf (a'.tmps.getD 7 undef)).toNat) rfl ?_ ?_
  · obtain ⟨ad, rfl, hcell⟩ := HR.out 0 w H0.out (by rw [HL.out]; exact hn0)
    obtain ⟨r, hy⟩ : ∃ r, L[0]? = some r := ⟨_, List.getElem?_eq_getElem (by rw [HL.out]; exact hn0)⟩
    have c0 : w.cell? ad = some (.slice r.A r.bs.length r.cap) := by have h9 := (hcell 0 r hy).1; rw [addr_zero] at h9; exact h9
    have HC := HS.out 0 w r hy H0.out
    have hk0i : (0 : Int) < (n : Int) := by omega
    have hk1i : (0 : Int) ≤ (n : Int) - 1 := by omega
    clear hcell hy
    have HB : (bits BinOp.and IntKind.i64 fi 2 == 0) = beg fi 0 := by
      have hfi4 : fi = 0 ∨ fi = 1 ∨ fi = 2 ∨ fi = 3 := by omega
      rcases hfi4 with rfl | rfl | rfl | rfl <;> rfl
    have HD : (bits BinOp.and IntKind.i64 fi 1 == 0) = (fi % 2 == 0) := by
      have hfi4 : fi = 0 ∨ fi = 1 ∨ fi = 2 ∨ fi = 3 := by omega
      rcases hfi4 with rfl | rfl | rfl | rfl <;> rfl
    rw [← HB] at HC
    rcases Nat.lt_or_ge 1 n with hn1 | hn1
    · have hd1 : (1 : Int) < (n : Int) := by omega
      have HE : fin fi n 0 = true := by unfold fin; rw [decide_eq_true (by omega)]; rfl
      rw [HE] at HC
      clear HD hn1
      have HC := Lib.hid HC
      clear HE HB hfi
      go_wp2
      go_step3
      go_wp2_with fail
      refine (HC.out).mono ?_
      rintro e w1 ⟨rfl, hi⟩
      go_wp2_with fail
      go_step3
      refine ⟨rfl, 1, by omega, by omega, ?_, hi⟩
      simp only [Fr, Holes]
      repeat apply Exists.intro
      rfl
    · obtain rfl : n = 1 := by omega
      have HE : fin fi 1 0 = (bits BinOp.and IntKind.i64 fi 1 == 0) := by rw [HD]; unfold fin; rw [decide_eq_false (by omega)]; rfl
      rw [HE] at HC
      clear HD hn1
      have HC := Lib.hid HC
      clear HE HB hfi
      go_wp2
      go_step3
      go_wp2_with fail
      refine (HC.out).mono ?_
      rintro e w1 ⟨rfl, hi⟩
      go_wp2_with fail
      go_step3
      refine ⟨rfl, 1, by omega, by omega, ?_, hi⟩
      simp only [Fr, Holes]
      repeat apply Exists.intro
      rfl
  · rintro a' w' ⟨k, hk0, hk, hfr, hinv⟩
    simp only [Fr, Holes] at hfr
    repeat (obtain ⟨_, hfr⟩ := hfr)
    have HI := Lib.hid hinv
    clear hinv
    have hk0i : (0 : Int) < (k : Int) := by omega
    rcases Nat.lt_or_ge k n with hlt | hge
    · obtain ⟨ad, rfl, hcell⟩ := HR.out k w' HI.out (by rw [HL.out]; omega)
      obtain ⟨r, hy⟩ : ∃ r, L[k]? = some r := ⟨_, List.getElem?_eq_getElem (by rw [HL.out]; exact hlt)⟩
      have c0 : w'.cell? (ad.add k) = some (.slice r.A r.bs.length r.cap) := (hcell k r hy).1
      have HC := HS.out k w' r hy HI.out
      have hb : beg fi k = true := by unfold beg; rw [decide_eq_true hk0]; rfl
      rw [hb] at HC
      have hi0 : (0 : Int) ≤ (k : Int) := by omega
      have hi1 : (k : Int) < (n : Int) := by omega
      have hi2 : (k : Int) ≤ (n : Int) - 1 := by omega
      clear hcell hy hb
      have HD : (bits BinOp.and IntKind.i64 fi 1 == 0) = (fi % 2 == 0) := by
        have hfi4 : fi = 0 ∨ fi = 1 ∨ fi = 2 ∨ fi = 3 := by omega
        rcases hfi4 with rfl | rfl | rfl | rfl <;> rfl
      rcases Nat.lt_or_ge (k + 1) n with hn1 | hn1
      · have hd1 : (k : Int) < (n : Int) - 1 := by omega
        have HE : fin fi n k = true := by unfold fin; rw [decide_eq_true (by omega)]; rfl
        rw [HE] at HC
        clear HD hn1
        have HC := Lib.hid HC
        clear HE hfi
        go_wp2_with fail
        refine (HC.out).mono ?_
        rintro e w1 ⟨rfl, hi⟩
        go_wp2_with fail
        go_step3
        refine ⟨rfl, ⟨k + 1, by omega, by omega, ?_, hi⟩, ?_⟩
        · simp only [Fr, Holes]
          repeat apply Exists.intro
          rfl
        · simp [intOf]
          omega
      · have hd1 : decide ((k : Int) < (n : Int) - 1) = false := decide_eq_false (by omega)
        have hd2 : ¬ (k : Int) < (n : Int) - 1 := by omega
        have HE : fin fi n k = (bits BinOp.and IntKind.i64 fi 1 == 0) := by rw [HD]; unfold fin; rw [decide_eq_false (by omega)]; rfl
        rw [HE] at HC
        clear HD hn1
        have HC := Lib.hid HC
        clear HE hfi
        go_wp2_with fail
        refine (HC.out).mono ?_
        rintro e w1 ⟨rfl, hi⟩
        go_wp2_with fail
        go_step3
        refine ⟨rfl, ⟨k + 1, by omega, by omega, ?_, hi⟩, ?_⟩
        · simp only [Fr, Holes]
          repeat apply Exists.intro
          rfl
        · simp [intOf]
          omega
    · obtain rfl : k = n := by omega
      have hgt : ¬ (k : Int) ≤ (k : Int) - 1 := by omega
      go_wp2
      simp only [Exit.jump]
      go_end0
      exact ⟨rfl, HI.out⟩
end Go.Proofs.Ytfgjlhklioijmaa
namespace Go.Proofs.Ytfgjlhklioijmaa
open Go.RowKit

theorem gempty_any {A : Option Addr} (m c : Nat) (w : World) : Calls Try.prog 264 #[.slice A m c] w fun e w' => e = .returned (.bool ((m : Int) == 0)) ∧ w = w' := by
  go_enter Try.func264, Try.ntmps264
  go_wp2
  go_ret
  exact ⟨rfl, rfl⟩
set_option maxRecDepth 100000 in
set_option maxHeartbeats 1600000 in
theorem gidx_any {A : Option Addr} {L : List RowB} (n cap : Nat) (w : World) (hL : L.length = n) (hn : n ≤ 1000) (hs : RSrc w A L) :
    Calls Try.prog 293 #[.slice A n cap, .func (.func 264) #[] #[]] w fun e w' => (∃ i : Int, e = .returned (.int .i64 i) ∧ (decide (0 ≤ i) = decide (0 ∈ lens L))) ∧ w = w' := by
  have hcf := fun (args : Array Value) (w : World) => enters Try.func264 (by kernel_rfl) rfl args w
  have HE := Lib.hid (fun (A : Option Addr) (m c : Nat) (w : World) => gempty_any (A := A) m c w)
  have HS := Lib.hid hs
  have HL := Lib.hid hL
  clear hs hL
  go_enter Try.func293, Try.ntmps293
  go_wp2
  go_loopw [8] (fun i wr => ∃ k : Nat, k ≤ n ∧ i = .int .i64 k ∧ w = wr ∧ Hid (∀ j r, j < k → L[j]? = some r → r.bs.length ≠ 0)) (fun i _ => n - (intOf i).toNat)
  case atStart => exact ⟨0, by omega, rfl, rfl, Lib.hid (fun j r h => absurd h (by omega))⟩
  case round =>
    obtain ⟨k, hk, rfl, rfl, HP⟩ := hrel
    by_cases hlt : k < n
    · obtain ⟨ad, rfl, hc⟩ := HS.out (by rw [HL.out]; omega)
      obtain ⟨r, hr⟩ : ∃ r, L[k]? = some r := ⟨_, List.getElem?_eq_getElem (by rw [HL.out]; exact hlt)⟩
      have f0 := (hc k r hr).1
      have HRR := Lib.hid hr
      have hkI : (k : Int) < (n : Int) := by omega
      unfold RowB.v at f0
      by_cases hz : r.bs.length = 0
      · have hz1 : ((r.bs.length : Int) == 0) = true := by simp [hz]
        have HF := Lib.hid (show decide (0 ≤ (k : Int)) = decide (0 ∈ lens L) from by
          rw [decide_eq_true (by omega : 0 ≤ (k : Int)), decide_eq_true]
          exact List.mem_of_getElem? (by rw [lens_at hr, hz]))
        clear hc hr hz
        go_wp2_with (go_at_call 264; (with_reducible refine (HE.out _ _ _ _).mono ?_); rintro e w1 ⟨rfl, rfl⟩; rw [hz1])
        go_ret
        exact ⟨⟨_, rfl, HF.out⟩, rfl⟩
      · have hz1 : ((r.bs.length : Int) == 0) = false := by rw [beq_eq_false_iff_ne]; omega
        have HP2 := Lib.hid (show ∀ j r', j < k + 1 → L[j]? = some r' → r'.bs.length ≠ 0 from fun j r' h h' => by
          rcases Nat.lt_or_ge j k with h9 | h9
          · exact HP.out j r' h9 h'
          · obtain rfl : j = k := by omega
            rw [HRR.out] at h'
            injection h' with h'
            subst h'
            exact hz)
        clear hc hr hz
        go_wp2_with (go_at_call 264; (with_reducible refine (HE.out _ _ _ _).mono ?_); rintro e w1 ⟨rfl, rfl⟩; rw [hz1])
        go_roundw
        case rel => exact ⟨k + 1, by omega, by go_num, by first | rfl | trivial, HP2⟩
        case measure => simp [intOf]; omega
    · have hkn : k = n := by omega
      subst hkn
      have HF := Lib.hid (show decide (0 ≤ (-1 : Int)) = decide (0 ∈ lens L) from by
        rw [decide_eq_false (by omega : ¬ 0 ≤ (-1 : Int)), eq_comm, decide_eq_false_iff_not]
        intro hm
        obtain ⟨j, hj⟩ := List.getElem?_of_mem hm
        have hj2 : j < L.length := by have := (List.getElem?_eq_some_iff.1 hj).1; rwa [length_lens] at this
        have h9 := List.getElem?_eq_getElem hj2
        rw [lens_at h9] at hj
        injection hj with hj
        exact HP.out j _ (by rw [← HL.out]; exact hj2) h9 hj)
      go_wp2
      go_ret
      exact ⟨⟨_, rfl, HF.out⟩, rfl⟩
theorem gcontains_any {A : Option Addr} {L : List RowB} (n cap : Nat) (w : World) (hL : L.length = n) (hn : n ≤ 1000) (hs : RSrc w A L) :
    Calls Try.prog 265 #[.slice A n cap, .func (.func 264) #[] #[]] w fun e w' => e = .returned (.bool (decide (0 ∈ lens L))) ∧ w = w' := by
  have HI := Lib.hid (gidx_any n cap w hL hn hs)
  generalize decide (0 ∈ lens L) = z at *
  clear hs hL
  go_enter Try.func265, Try.ntmps265
  go_wp2_with (go_at_call 293; (with_reducible refine (HI.out).mono ?_); rintro e w1 ⟨⟨i, rfl, hi⟩, rfl⟩; (have HZ := Lib.hid hi; clear hi))
  go_ret
  exact ⟨by rw [← HZ.out]; rfl, rfl⟩
/-- what is handed in may be -/
def okG (fi : Int) (ls : List Nat) : Bool := decide (0 ≤ fi) && decide (fi ≤ 3) && decide (0 < ls.length) && decide (ls.length ≤ 24) && !decide (0 ∈ ls)
set_option maxRecDepth 100000 in
set_option maxHeartbeats 1600000 in
theorem gfault_any {p : Nat} {u v : Value} {A : Option Addr} {L : List RowB} (fi : Int) (n cap : Nat) (w : World) (hr : Row w p 266 #[.bool true, u, v]) (hL : L.length = n) (hn : n ≤ 1000) (hs : RSrc w A L) :
    Calls Try.prog 199 #[.pointer (some ⟨p, 0, none⟩), .int .i64 fi, .slice A n cap] w fun e w' => e = .returned (.int .i64 (if okG fi (lens L) then 0 else 1)) ∧ w = w' := by
  have HC := Lib.hid (gcontains_any n cap w hL hn hs)
  have c0 := hr.read (i := 0) rfl
  have HK := Lib.hid (show okG fi (lens L) = (decide (0 ≤ fi) && decide (fi ≤ 3) && decide (0 < n) && decide (n ≤ 24) && !decide (0 ∈ lens L)) by unfold okG; rw [length_lens, hL])
  rw [HK.out]
  generalize decide (0 ∈ lens L) = z at *
  clear hs hL hr HK
  by_cases h0 : 0 ≤ fi
  · by_cases h3 : fi ≤ 3
    · rw [decide_eq_true h0, decide_eq_true h3]
      have h0' : ¬ fi < 0 := by omega
      have h3' : ¬ 3 < fi := by omega
      by_cases hn0 : 0 < n
      · have hz : ((n : Int) == 0) = false := by simp; omega
        by_cases h24 : n ≤ 24
        · rw [decide_eq_true hn0, decide_eq_true h24]
          have h24' : ¬ (24 : Int) < (n : Int) := by omega
          cases z
          · go_enter Try.func199, Try.ntmps199
            go_wp2_with (go_at_call 265; (with_reducible refine (HC.out).mono ?_); rintro e w1 ⟨rfl, rfl⟩)
            go_ret
            exact ⟨rfl, rfl⟩
          · go_enter Try.func199, Try.ntmps199
            go_wp2_with (go_at_call 265; (with_reducible refine (HC.out).mono ?_); rintro e w1 ⟨rfl, rfl⟩)
            go_ret
            exact ⟨rfl, rfl⟩
        · rw [decide_eq_false h24]
          have h24' : (24 : Int) < (n : Int) := by omega
          simp only [Bool.and_false, Bool.false_and, if_neg (show ¬ (false = true) by decide)]
          go_enter Try.func199, Try.ntmps199
          go_wp2
          go_ret
          exact ⟨rfl, rfl⟩
      · rw [decide_eq_false hn0]
        have hz : ((n : Int) == 0) = true := by simp; omega
        simp only [Bool.and_false, Bool.false_and, if_neg (show ¬ (false = true) by decide)]
        go_enter Try.func199, Try.ntmps199
        go_wp2
        go_ret
        exact ⟨rfl, rfl⟩
    · rw [decide_eq_false h3]
      have h0' : ¬ fi < 0 := by omega
      have h3' : 3 < fi := by omega
      simp only [Bool.and_false, Bool.false_and, if_neg (show ¬ (false = true) by decide)]
      go_enter Try.func199, Try.ntmps199
      go_wp2
      go_ret
      exact ⟨rfl, rfl⟩
  · rw [decide_eq_false h0]
    have h0' : fi < 0 := by omega
    simp only [Bool.false_and, if_neg (show ¬ (false = true) by decide)]
    go_enter Try.func199, Try.ntmps199
    go_wp2
    go_ret
    exact ⟨rfl, rfl⟩
end Go.Proofs.Ytfgjlhklioijmaa
namespace Go.Proofs.Ytfgjlhklioijmaa
open Go.RowKit

theorem told_lost (s : GS) (e : Bool) : (s.told e).1.lost = s.lost := by
  unfold GS.told
  split
  · split <;> rfl
  · rfl
theorem told_short (s : GS) (e : Bool) (h : s.held.length ≤ 1000) : (s.told e).1.held.length ≤ 1000 := by
  unfold GS.told
  split
  · split <;> simp_all
  · exact h
theorem told_one (s : GS) (e : Bool) : (s.told e).2.length ≤ 1 := by
  unfold GS.told
  split
  · split <;> simp
  · simp
theorem clipr_any {A : Option Addr} (n c : Nat) (w : World) (hc : n ≤ c) : Calls Try.prog 182 #[.slice A n c] w fun e w' => e = .returned (.slice A n n) ∧ w = w' := by
  cases A with
  | none =>
    go_enter Try.func182, Try.ntmps182
    go_wp2
    go_ret
    exact ⟨rfl, rfl⟩
  | some a =>
    go_enter Try.func182, Try.ntmps182
    go_wp2
    go_ret
    exact ⟨rfl, rfl⟩
/-- the state, and what was told, behind field k -/
def goTo (fi n : Nat) (fs : List (List Nat)) (s : GS) : Nat → GS × List (List Nat)
  | 0 => (s, [])
  | k + 1 =>
    let z := goTo fi n fs s k
    let y := (z.1.come (fs.getD k []) (beg fi k) (fin fi n k)).told (fin fi n k)
    (y.1, z.2 ++ y.2)
theorem goTo_split (fi n : Nat) (fs : List (List Nat)) (s : GS) : ∀ k j, k + j = fs.length → ((goG fi n k (fs.drop k) (goTo fi n fs s k).1).1, (goTo fi n fs s k).2 ++ (goG fi n k (fs.drop k) (goTo fi n fs s k).1).2) = goTo fi n fs s fs.length := by
  intro k j
  induction j generalizing k with
  | zero =>
    intro h
    have e : fs.length = k := by omega
    rw [List.drop_of_length_le (by omega), e]
    simp [goG]
  | succ j ih =>
    intro h
    have hk : k < fs.length := by omega
    have e : fs.drop k = fs.getD k [] :: fs.drop (k + 1) := by
      rw [List.drop_eq_getElem_cons hk, List.getD_eq_getElem?_getD, List.getElem?_eq_getElem hk]
      rfl
    rw [← ih (k + 1) (by omega), e]
    simp only [goG, goTo, List.append_assoc]
theorem goTo_all (fi n : Nat) (fs : List (List Nat)) (s : GS) : goTo fi n fs s fs.length = goG fi n 0 fs s := by
  have h := goTo_split fi n fs s 0 fs.length (by omega)
  rw [← h]
  simp [goTo]
theorem goTo_facts (fi n : Nat) (fs : List (List Nat)) (s : GS) (hs : s.held.length ≤ 1000) (k : Nat) : (goTo fi n fs s k).1.held.length ≤ 1000 ∧ (goTo fi n fs s k).1.lost ≤ s.lost + 2 * k ∧ (goTo fi n fs s k).2.length ≤ k := by
  induction k with
  | zero => exact ⟨hs, by simp [goTo], by simp [goTo]⟩
  | succ k ih =>
    obtain ⟨h1, h2, h3⟩ := ih
    simp only [goTo]
    refine ⟨told_short _ _ (GS.come_short _ _ _ _ h1), ?_, ?_⟩
    · rw [told_lost]
      have := (goTo fi n fs s k).1.come_lost (fs.getD k []) (beg fi k) (fin fi n k)
      omega
    · rw [List.length_append]
      have := told_one ((goTo fi n fs s k).1.come (fs.getD k []) (beg fi k) (fin fi n k)) (fin fi n k)
      omega
theorem come_bytes {s : GS} {f : List Nat} {b e : Bool} (h : ∀ x ∈ s.held, x < 256) (hf : ∀ x ∈ f, x < 256) : ∀ x ∈ (s.come f b e).held, x < 256 := by
  unfold GS.come
  repeat' split
  all_goals simp_all
  all_goals (intro x hx; exact hx.elim (h x) (hf x))
theorem told_bytes {s : GS} {e : Bool} (h : ∀ x ∈ s.held, x < 256) : (∀ x ∈ (s.told e).1.held, x < 256) ∧ ∀ t ∈ (s.told e).2, ∀ x ∈ t, x < 256 := by
  unfold GS.told
  split
  · split
    · exact ⟨h, by simp⟩
    · exact ⟨by simp, by simpa using h⟩
  · exact ⟨h, by simp⟩
theorem goTo_bytes (fi n : Nat) (fs : List (List Nat)) (s : GS) (hs : ∀ x ∈ s.held, x < 256) (hf : ∀ f ∈ fs, ∀ x ∈ f, x < 256) (k : Nat) : (∀ x ∈ (goTo fi n fs s k).1.held, x < 256) ∧ ∀ t ∈ (goTo fi n fs s k).2, ∀ x ∈ t, x < 256 := by
  induction k with
  | zero => exact ⟨hs, by simp [goTo]⟩
  | succ k ih =>
    simp only [goTo]
    have hk : ∀ x ∈ fs.getD k [], x < 256 := by
      rw [List.getD_eq_getElem?_getD]
      rcases Nat.lt_or_ge k fs.length with h | h
      · rw [List.getElem?_eq_getElem h]
        exact hf _ (List.getElem_mem h)
      · rw [List.getElem?_eq_none h]
        simp
    have h1 := told_bytes (e := fin fi n k) (come_bytes (b := beg fi k) (e := fin fi n k) ih.1 hk)
    refine ⟨h1.1, fun t ht => ?_⟩
    rw [List.mem_append] at ht
    rcases ht with ht | ht
    · exact ih.2 t ht
    · exact h1.2 t ht
/-- what Put does that is not refused -/
def PutDone (B p : Nat) (hv : Value) (s' : GS) (told : List (List Nat)) (w : World) (e : Ending) (w' : World) : Prop :=
  ∃ hv' L A, e = .returned (.tuple #[.slice A L.length L.length, .int .i64 0]) ∧ texts L = told ∧ GRep B w' p hv' s' ∧ RSrc w' A L ∧ Only (GS1 p hv) w w' ∧ GNext w hv hv' ∧ (∃ C c, w'.ownsRow C 30 1 (.slice A L.length c) L.length (L.map RowB.v)) ∧ ∀ r ∈ L, TOk B w' hv' r
/-- between two fields -/
def GJ (B p gb tb C fi n : Nat) (fs : List (List Nat)) (s : GS) (hv : Value) (w : World) (k : Nat) (W : World) : Prop :=
  ∃ hv' tv' L', GInv B C p gb tb W hv' tv' (goTo fi n fs s k).1 L' ∧ texts L' = (goTo fi n fs s k).2 ∧ Only (GS1 p hv) w W ∧ GNext w hv hv' ∧ (∀ k, tv'.ownBlock = some k → w.heap.size ≤ k) ∧ C ≤ W.heap.size
theorem texts_getD {L : List RowB} {k : Nat} {r : RowB} (h : L[k]? = some r) : (texts L).getD k [] = r.bs := by
  rw [List.getD_eq_getElem?_getD, texts_at h]
  rfl
theorem rows_told {B C p gb tb : Nat} {W : World} {hv tv : Value} {s : GS} {L : List RowB} (h : GInv B C p gb tb W hv tv s L) (hb : ∀ t ∈ texts L, ∀ x ∈ t, x < 256) : ∃ A c, tv = .slice A L.length c ∧ L.length ≤ c ∧ RSrc W A L := by
  obtain ⟨_, _, _, h4, h5⟩ := h
  have hok : ∀ r ∈ L, r.ok W := fun r hr => by
    have h9 := h5 r hr
    obtain ⟨g, cs, _, _, _, k1, k2, _⟩ := id h9
    exact ⟨h9.src, k1, k2, hb r.bs (List.mem_map.2 ⟨r, hr, rfl⟩)⟩
  rcases h4.2 with ⟨rfl, h0⟩ | ⟨g, cap, cur, rfl, _, _, h1, _, _⟩
  · refine ⟨none, 0, by rw [h0], by omega, fun h9 => ?_⟩
    omega
  · refine ⟨some ⟨g, 0, none⟩, cap, rfl, h1, fun _ => ⟨_, rfl, fun k r hr => ⟨?_, hok r (List.mem_of_getElem? hr)⟩⟩⟩
    exact h4.cells (g := g) rfl k _ (by rw [List.getElem?_map, hr]; rfl)
theorem geach_put {B p gb tb C fi n cap : Nat} {A : Option Addr} {L : List RowB} {s : GS} {hv : Value} {w w3 : World} (hfi : fi ≤ 3) (hL : L.length = n) (hn0 : 0 < n) (hn : n ≤ 24) (hB : B ≤ w.heap.size) (htb : w.heap.size ≤ tb)
    (hs : ∀ W, Only (GS1 p hv) w W → RSrc W A L) (hlen : 2 ≤ fi → ∀ r, L[0]? = some r → r.bs.length ≤ 100000) (hlost : s.lost ≤ 100000) (hheld : s.held.length ≤ 1000) (h0 : GJ B p gb tb C fi n (texts L) s hv w 0 w3) :
    Calls Try.prog 201 #[.int .i64 fi, .slice A n cap, .func (.func 202) #[] #[.pointer (some ⟨gb, 0, none⟩), .pointer (some ⟨tb, 0, none⟩)]] w3 fun e w' => e = .returned (.tuple #[]) ∧ GJ B p gb tb C fi n (texts L) s hv w n w' := by
  refine geach_any fi n cap hfi (GJ B p gb tb C fi n (texts L) s hv w) w3 hL hn0 (by omega) h0 (fun k W h => ?_) (fun k W r hr h => ?_)
  · obtain ⟨_, _, _, _, _, h3, _⟩ := h
    exact hs W h3
  · obtain ⟨hv', tv', L', h1, h2, h3, h4, h5, h6⟩ := h
    have hk : k < n := by rw [← hL]; exact (List.getElem?_eq_some_iff.1 hr).1
    have hfa := goTo_facts fi n (texts L) s hheld k
    have hl' : L'.length ≤ 24 := by rw [← length_texts, h2]; omega
    refine (put1_any (beg fi k) (fin fi n k) r.bs.length r.cap h1 (by omega) (Nat.le_trans hB h3.size) h6 (by omega) (fun W' hb' => ?_) rfl ?_ (fun hbeg => ?_) hfa.1).mono ?_
    · obtain ⟨ad, _, hc⟩ := hs W' (h3.andThen hb' (fun k _ hk => Or.inl hk)) (by omega)
      exact (hc k r hr).2.1
    · obtain ⟨ad, _, hc⟩ := hs W h3 (by omega)
      have h9 := (hc k r hr).2
      have := h9.2.1
      have := h9.2.2.1
      omega
    · unfold beg at hbeg
      rw [Bool.or_eq_false_iff, decide_eq_false_iff_not, beq_eq_false_iff_ne] at hbeg
      obtain rfl : k = 0 := by omega
      exact hlen (by omega) r hr
    · rintro e W2 ⟨rfl, hv2, tv2, L2, g1, g2, g3, g4, g5, g6⟩
      refine ⟨rfl, hv2, tv2, L2, ?_, ?_, ?_, ?_, ?_, g6⟩
      · simp only [goTo]
        rw [texts_getD hr]
        exact g1
      · simp only [goTo]
        rw [texts_getD hr, g2, h2]
      · refine h3.andThen g3 (fun j hj hx => ?_)
        rcases hx with (hx | hx) | hx | hx
        · exact .inl hx
        · rcases h4 j hx with h9 | h9
          · exact .inr h9
          · omega
        · omega
        · have := h5 j hx; omega
      · intro j hj
        rcases g4 j hj with h9 | h9
        · exact h4 j h9
        · exact .inr (Nat.le_trans h3.size h9)
      · intro j hj
        rcases g5 j hj with h9 | h9
        · exact h5 j h9
        · exact Nat.le_trans h3.size h9
set_option maxRecDepth 100000 in
set_option maxHeartbeats 1600000 in
theorem gput_bad {B p : Nat} {w : World} {hv : Value} {s : GS} {A : Option Addr} {L : List RowB} (fi : Int) (n cap : Nat) (gap : Bool) (h : GRep B w p hv s) (hL : L.length = n) (hn : n ≤ 1000) (hs : RSrc w A L) (hno : okG fi (lens L) = false) :
    Calls Try.prog 104 #[.pointer (some ⟨p, 0, none⟩), .int .i64 fi, .slice A n cap, .bool gap] w fun e w' => e = .returned (.tuple #[.slice none 0 0, .int .i64 1]) ∧ Below w.heap.size w w' := by
  have HF := Lib.hid (gfault_any fi n cap (w.alloc (.cells #[.pointer (some ⟨p, 0, none⟩)] 162)) (h.1.more _) hL hn (hs.later (bl_alloc (Below.refl _ _) _)))
  rw [hno] at HF
  clear h hs hL hno
  go_enter Try.func104, Try.ntmps104
  go_wp2_with (go_at_call 199; (with_reducible refine (HF.out).mono ?_); rintro e w1 ⟨rfl, rfl⟩)
  go_ret2
  exact ⟨rfl, bl_alloc (Below.refl _ _) _⟩
theorem gj0 {B p gb : Nat} {w w2 : World} {hv hv2 : Value} {s2 : GS} {fi n : Nat} {fs : List (List Nat)} (h : GRep B w2 p hv2 s2) (hg : Row w2 gb 162 #[.pointer (some ⟨p, 0, none⟩)]) (ho : Only (GS1 p hv) w w2) (hn : GNext w hv hv2) :
    GJ B p gb w2.heap.size w2.heap.size fi n fs s2 hv w 0 (w2.alloc (.cells #[.slice none 0 0] 22)) :=
  ⟨hv2, .slice none 0 0, [], ⟨h.later (bl_alloc (Below.refl _ _) _), hg.more _, Row.made _ _ _, World.ownsRow_nil _ _ _ _, fun r hr => by cases hr⟩, rfl, ho.alloc _, hn, fun k hk => by simp [Value.ownBlock] at hk, by simp⟩
set_option maxRecDepth 100000 in
set_option maxHeartbeats 1600000 in
theorem gput_ok {B p : Nat} {w : World} {hv : Value} {s : GS} {A : Option Addr} {L : List RowB} (fi n cap : Nat) (gap : Bool) (h : GRep B w p hv s) (hL : L.length = n) (hB : B ≤ w.heap.size) (hs : ∀ W, Only (GS1 p hv) w W → RSrc W A L) (hok : okG fi (lens L) = true)
    (hlen : 2 ≤ fi → ∀ r, L[0]? = some r → r.bs.length ≤ 100000) (hlost : s.lost ≤ 10000) (hheld : s.held.length ≤ 1000) (hby : ∀ x ∈ s.held, x < 256) :
    Calls Try.prog 104 #[.pointer (some ⟨p, 0, none⟩), .int .i64 fi, .slice A n cap, .bool gap] w (PutDone B p hv (putG fi (texts L) gap s).1 (putG fi (texts L) gap s).2 w) := by
  have hok' := hok
  unfold okG at hok'
  simp only [Bool.and_eq_true, decide_eq_true_eq] at hok'
  obtain ⟨⟨⟨⟨_, hfi⟩, hn0⟩, h24⟩, _⟩ := hok'
  rw [length_lens, hL] at hn0 h24
  have hb0 := bl_alloc (Below.refl w.heap.size w) (.cells #[.pointer (some ⟨p, 0, none⟩)] 162)
  have HF := Lib.hid (gfault_any fi n cap (w.alloc (.cells #[.pointer (some ⟨p, 0, none⟩)] 162)) (h.1.more _) hL (by omega) (hs _ (Only.of_below hb0)))
  rw [hok, if_pos rfl] at HF
  have hbytes : ∀ f ∈ texts L, ∀ x ∈ f, x < 256 := by
    intro f hf
    obtain ⟨r, hr, rfl⟩ := List.mem_map.1 hf
    obtain ⟨j, hj⟩ := List.getElem?_of_mem hr
    obtain ⟨ad, _, hc⟩ := hs w (Only.refl _ _) (by omega)
    exact (hc j r hj).2.2.2.2
  have HROW := Lib.hid (Row.made w 162 #[.pointer (some ⟨p, 0, none⟩)])
  have k0 : (w.alloc (.cells #[.pointer (some ⟨p, 0, none⟩)] 162)).cell? ⟨w.heap.size, 0, none⟩ = some (.pointer (some ⟨p, 0, none⟩)) := HROW.out.read rfl
  -- what each leaves, told as the law tells it
  have fine : ∀ (s2 : GS) (gb tb C : Nat) (W : World), (∀ x ∈ s2.held, x < 256) → GJ B p gb tb C fi n (texts L) s2 hv w n W → ∃ (hv' : Value) (L2 : List RowB) (A2 : Option Addr) (c2 : Nat), W.cell? ⟨tb, 0, none⟩ = some (.slice A2 L2.length c2) ∧ L2.length ≤ c2 ∧
      PutDone B p hv (goG fi n 0 (texts L) s2).1 (goG fi n 0 (texts L) s2).2 w (.returned (.tuple #[.slice A2 L2.length L2.length, .int .i64 0])) W ∧ hv' = hv' := by
    intro s2 gb tb C W hb2 ⟨hv', tv', L', h1, h2, h3, h4, h5, h6⟩
    have hgb := goTo_bytes fi n (texts L) s2 hb2 hbytes n
    obtain ⟨A2, c2, rfl, q1, q2⟩ := rows_told h1 (by rw [h2]; exact hgb.2)
    have e := goTo_all fi n (texts L) s2
    rw [length_texts, hL] at e
    rw [← e]
    exact ⟨hv', L', A2, c2, h1.2.2.1.read rfl, q1, ⟨hv', L', A2, rfl, h2, h1.1, q2, h3, h4, ⟨C, c2, h1.2.2.2.1⟩, h1.2.2.2.2⟩, rfl⟩
  have HFI := Lib.hid fine
  have hput : putG fi (texts L) gap s = goG fi n 0 (texts L) (if gap then s.lose else s) := by unfold putG; rw [length_texts, hL]
  rw [hput]
  have HE := Lib.hid (fun (s2 : GS) (gb tb C : Nat) (w3 : World) (htb : w.heap.size ≤ tb) (hl1 : s2.lost ≤ 100000) (hl2 : s2.held.length ≤ 1000) h0 => geach_put (fi := fi) (p := p) (hv := hv) (w := w) (w3 := w3) (s := s2) (gb := gb) (tb := tb) (C := C) (cap := cap) (by omega) hL hn0 h24 hB htb hs hlen hl1 hl2 h0)
  have hh1 := h.later hb0
  have HLS := Lib.hid (glose_any hh1 (by omega))
  have HH := Lib.hid hh1
  have HO := Lib.hid (show Only (GS1 p hv) w (w.alloc (.cells #[.pointer (some ⟨p, 0, none⟩)] 162)) from Only.of_below hb0)
  clear hput fine h hs hL hok hbytes hlen hh1 hb0
  have HBY := Lib.hid hby
  have hcl := fun (A : Option Addr) (n c : Nat) (W : World) (hc : n ≤ c) => clipr_any (A := A) n c W hc
  have HCL := Lib.hid hcl
  clear hby hcl
  cases gap
  · have HJ := Lib.hid (gj0 (fi := fi) (n := n) (fs := texts L) HH.out HROW.out HO.out (GNext.refl w hv))
    have e1 : (w.alloc (.cells #[.pointer (some ⟨p, 0, none⟩)] 162)).heap.size = w.heap.size + 1 := by simp
    rw [e1] at HJ
    clear e1
    go_enter Try.func104, Try.ntmps104
    go_wp2_with (first
      | (go_at_call 199; (with_reducible refine (HF.out).mono ?_); rintro e w1 ⟨rfl, rfl⟩)
      | (go_at_call 201; (with_reducible refine (HE.out s w.heap.size (w.heap.size + 1) _ _ (Nat.le_succ _) (by omega) hheld HJ.out).mono ?_); rintro e w4 ⟨rfl, hj⟩; obtain ⟨hv', L2, A2, c2, k1, k2, k3, _⟩ := HFI.out s _ _ _ w4 HBY.out hj; (have HD := Lib.hid k3; clear hj k3))
      | (go_at_call 182; (with_reducible refine (HCL.out _ _ _ _ k2).mono ?_); rintro e w5 ⟨rfl, rfl⟩))
    go_ret2
    exact HD.out
  · have hll := s.lose_lost
    have HLH := Lib.hid (lose_held s)
    have HROW2 := Lib.hid (fun (W : World) (ho : Only (fun k => k = p) (w.alloc (.cells #[.pointer (some ⟨p, 0, none⟩)] 162)) W) (hne : w.heap.size ≠ p) => HROW.out.only ho hne)
    have hne : w.heap.size ≠ p := HROW.out.apart HH.out.1 (by decide)
    go_enter Try.func104, Try.ntmps104
    go_wp2_with (first
      | (go_at_call 199; (with_reducible refine (HF.out).mono ?_); rintro e w1 ⟨rfl, rfl⟩)
      | (go_at_call 200; (with_reducible refine (HLS.out).mono ?_); rintro e w2 ⟨rfl, hv2, h2, ho2, hg2⟩; (have R2 := Lib.hid (HROW2.out w2 ho2 hne); have H2 := Lib.hid h2; have O2 := Lib.hid ((HO.out).andThen ho2 (fun k _ hk => (Or.inl hk : GS1 p hv k))); have G2 := Lib.hid (show GNext w hv hv2 from fun k hk => (hg2 k hk).elim Or.inl (fun h9 => Or.inr (Nat.le_trans HO.out.size h9))); clear h2 ho2 hg2))
      | (go_at_call 201; (with_reducible refine (HE.out s.lose w.heap.size _ _ _ ?z1 ?z2 ?z3 (gj0 H2.out R2.out O2.out G2.out)).mono ?_); rotate_left 3; rintro e w4 ⟨rfl, hj⟩; obtain ⟨hv', L2, A2, c2, k1, k2, k3, _⟩ := HFI.out s.lose _ _ _ w4 (by rw [HLH.out]; simp) hj; (have HD := Lib.hid k3; clear hj k3))
      | (go_at_call 182; (with_reducible refine (HCL.out _ _ _ _ k2).mono ?_); rintro e w5 ⟨rfl, rfl⟩))
    · go_ret2
      exact HD.out
    all_goals (first | omega | (rw [HLH.out]; simp) | exact O2.out.size)
end Go.Proofs.Ytfgjlhklioijmaa
