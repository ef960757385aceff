/-
  More closures of package spans: how many, all, one of them; a keeper made; parts kept.
-/
import Derived.Test.YtmaefeckkodllaaSpanKeep
namespace Go.Proofs.Ytmaefeckkodllaa
open Go.RowKit

set_option maxHeartbeats 400000 in
theorem keeper_any (vb : Nat) (w : World) :
    Calls Try.prog 46 #[.pointer (some ⟨vb, 0, none⟩)] w fun e w' => e = .returned (.func (.func 63) #[] #[.pointer (some ⟨w.heap.size, 0, none⟩)]) ∧ w' = w.alloc (.cells #[.pointer (some ⟨vb, 0, none⟩)] 91) := by
  go_enter Try.func46, Try.ntmps46
  go_wp2
  go_ret
  exact ⟨rfl, rfl⟩

theorem only_box {w : World} {o : Obj} {S : Nat → Prop} {p : Addr} {x : Value} (hp : S p.block) : Only S w ((w.alloc o).setCell p x) :=
  ((Only.refl S w).alloc o).set (.inl hp) x

set_option maxHeartbeats 400000 in
theorem count1_any {nb : Nat} {n : Int} {w : World} (y : Int × Int) (h : Row w nb 3 #[.int .i64 n]) (hn : 0 ≤ n ∧ n ≤ 1000000000000) (hy : 0 ≤ y.1 ∧ y.1 ≤ y.2 ∧ y.2 ≤ 65536) :
    Calls Try.prog 52 #[spv y, .pointer (some ⟨nb, 0, none⟩)] w fun e w' => e = .returned (.tuple #[]) ∧ Row w' nb 3 #[.int .i64 (n + (y.2 - y.1))] ∧ Only (fun k => k = nb) w w' := by
  obtain ⟨a, b⟩ := y
  have c0 := (h.more (.cells #[.int .i64 a, .int .i64 b] 24)).read (i := 0) rfl
  have f0 := (h.more (.cells #[.int .i64 a, .int .i64 b] 24)).free 0
  have HR := Lib.hid ((h.more (.cells #[.int .i64 a, .int .i64 b] 24)).written 0 (.int .i64 (n + (b - a))))
  have HO := Lib.hid (only_box (w := w) (o := .cells #[.int .i64 a, .int .i64 b] 24) (S := fun k => k = nb) (p := ⟨nb, 0, none⟩) (x := .int .i64 (n + (b - a))) rfl)
  clear h
  simp only at hy
  show Calls Try.prog 52 #[.agg #[.int .i64 a, .int .i64 b], _] w _
  go_enter Try.func52, Try.ntmps52
  go_wp2
  go_end0
  exact ⟨rfl, HR.out, HO.out⟩

/-- a closure's call that stores a bool -/
def BoolDone (hb : Nat) (v : Bool) (w : World) (e : Ending) (w' : World) : Prop := e = .returned (.tuple #[]) ∧ Row w' hb 4 #[.bool v] ∧ Only (fun k => k = hb) w w'
theorem bool_done {hb : Nat} {h v v' : Bool} {w : World} (hr : Row w hb 4 #[.bool h]) (o : Obj) (he : v = v') : BoolDone hb v w (.returned (.tuple #[])) ((w.alloc o).setCell ⟨hb, 0, none⟩ (.bool v')) := by
  subst he
  exact ⟨rfl, (hr.more o).written 0 (.bool v), only_box rfl⟩

set_option maxHeartbeats 800000 in
theorem has1_any {hb xb : Nat} {h : Bool} {x : Int × Int} {w : World} (y : Int × Int) (v : Bool) (hv : (h || decide (y.1 ≤ x.1 ∧ x.2 ≤ y.2)) = v) (hr : Row w hb 4 #[.bool h]) (hx : Row w xb 24 #[.int .i64 x.1, .int .i64 x.2]) :
    Calls Try.prog 55 #[spv y, .pointer (some ⟨hb, 0, none⟩), .pointer (some ⟨xb, 0, none⟩)] w (BoolDone hb v w) := by
  obtain ⟨a, b⟩ := y
  obtain ⟨c, d⟩ := x
  have c0 := (hr.more (.cells #[.int .i64 a, .int .i64 b] 24)).read (i := 0) rfl
  have f0 := (hr.more (.cells #[.int .i64 a, .int .i64 b] 24)).free 0
  have k1 := (hx.more (.cells #[.int .i64 a, .int .i64 b] 24)).read (i := 0) rfl
  have k2 := (hx.more (.cells #[.int .i64 a, .int .i64 b] 24)).read (i := 1) rfl
  have HD := Lib.hid (fun v v' (h : v = v') => bool_done (v := v) (v' := v') hr (.cells #[.int .i64 a, .int .i64 b] 24) h)
  clear hr hx
  show Calls Try.prog 55 #[.agg #[.int .i64 a, .int .i64 b], _, _] w _
  cases h
  · by_cases h1 : a ≤ c
    · by_cases h2 : d ≤ b
      · obtain rfl : v = true := by rw [← hv]; simp [h1, h2]
        clear hv
        go_enter Try.func55, Try.ntmps55
        go_wp2
        go_end0
        exact HD.out _ _ rfl
      · obtain rfl : v = false := by rw [← hv]; simp [h2]
        clear hv
        go_enter Try.func55, Try.ntmps55
        go_wp2
        go_end0
        exact HD.out _ _ rfl
    · obtain rfl : v = false := by rw [← hv]; simp [h1]
      clear hv
      go_enter Try.func55, Try.ntmps55
      go_wp2
      go_end0
      exact HD.out _ _ rfl
  · obtain rfl : v = true := by rw [← hv]; simp []
    clear hv
    go_enter Try.func55, Try.ntmps55
    go_wp2
    go_end0
    exact HD.out _ _ rfl

set_option maxHeartbeats 800000 in
theorem tou1_any {hb xb : Nat} {h : Bool} {x : Int × Int} {w : World} (y : Int × Int) (v : Bool) (hv : (h || decide (y.1 < x.2 ∧ x.1 < y.2)) = v) (hr : Row w hb 4 #[.bool h]) (hx : Row w xb 24 #[.int .i64 x.1, .int .i64 x.2]) :
    Calls Try.prog 56 #[spv y, .pointer (some ⟨hb, 0, none⟩), .pointer (some ⟨xb, 0, none⟩)] w (BoolDone hb v w) := by
  obtain ⟨a, b⟩ := y
  obtain ⟨c, d⟩ := x
  have c0 := (hr.more (.cells #[.int .i64 a, .int .i64 b] 24)).read (i := 0) rfl
  have f0 := (hr.more (.cells #[.int .i64 a, .int .i64 b] 24)).free 0
  have k1 := (hx.more (.cells #[.int .i64 a, .int .i64 b] 24)).read (i := 0) rfl
  have k2 := (hx.more (.cells #[.int .i64 a, .int .i64 b] 24)).read (i := 1) rfl
  have HD := Lib.hid (fun v v' (h : v = v') => bool_done (v := v) (v' := v') hr (.cells #[.int .i64 a, .int .i64 b] 24) h)
  clear hr hx
  show Calls Try.prog 56 #[.agg #[.int .i64 a, .int .i64 b], _, _] w _
  cases h
  · by_cases h1 : a < d
    · by_cases h2 : c < b
      · obtain rfl : v = true := by rw [← hv]; simp [h1, h2]
        clear hv
        go_enter Try.func56, Try.ntmps56
        go_wp2
        go_end0
        exact HD.out _ _ rfl
      · obtain rfl : v = false := by rw [← hv]; simp [h2]
        clear hv
        go_enter Try.func56, Try.ntmps56
        go_wp2
        go_end0
        exact HD.out _ _ rfl
    · obtain rfl : v = false := by rw [← hv]; simp [h1]
      clear hv
      go_enter Try.func56, Try.ntmps56
      go_wp2
      go_end0
      exact HD.out _ _ rfl
  · obtain rfl : v = true := by rw [← hv]; simp []
    clear hv
    go_enter Try.func56, Try.ntmps56
    go_wp2
    go_end0
    exact HD.out _ _ rfl

/-- a keeper's variables and others: a variable fb of the keeper itself, the span x at block xb, a number at block nb -/
def KeptW (C kb vb fb : Nat) (G : List (Int × Int)) (w : World) : Prop :=
  fb < C ∧ Row w fb 89 #[.func (.func 63) #[] #[.pointer (some ⟨kb, 0, none⟩)]] ∧ Kept C kb vb G w

theorem Kept.ne {C kb vb : Nat} {G : List (Int × Int)} {w : World} (h : Kept C kb vb G w) {g : Nat} {t : TypeId} {cs : Array Value} (hr : Row w g t cs) (h1 : t ≠ 91) (h2 : t ≠ 45) : g ≠ kb ∧ g ≠ vb := by
  obtain ⟨_, _, k1, sv, k2, _⟩ := h
  exact ⟨hr.apart k1 h1, hr.apart k2 h2⟩
theorem KeptW.done {C kb vb fb : Nat} {G G' : List (Int × Int)} {w w' : World} {e : Ending} (h : KeptW C kb vb fb G w) {D : Nat} (hd : KeepDone C D kb vb G' w e w') : KeptW C kb vb fb G' w' := by
  obtain ⟨h1, h2, h3⟩ := h
  obtain ⟨_, h4, h5⟩ := hd
  exact ⟨h1, h2.only h5 (fun hk => by
    rcases hk with hk | hk
    · exact (h3.ne h2 (by decide) (by decide)).2 hk
    · omega), h4⟩
theorem KeptW.own {C kb vb fb : Nat} {G : List (Int × Int)} {w : World} (h : KeptW C kb vb fb G w) : ∀ sv k, Row w vb 45 #[sv] → sv.ownBlock = some k → k < w.heap.size := by
  obtain ⟨_, _, _, _, _, sv, h1, h2⟩ := h
  intro sv' k hr hk
  unfold Row at h1 hr
  rw [h1] at hr
  injection hr with hr
  injection hr with hr _
  injection hr with hr
  injection hr with hr _
  subst hr
  exact (h2.lt k hk).2
theorem KeptW.own1 {C kb vb fb : Nat} {G : List (Int × Int)} {w : World} (h : KeptW C kb vb fb G w) (o : Obj) : ∀ sv k, Row (w.alloc o) vb 45 #[sv] → sv.ownBlock = some k → k < w.heap.size := by
  intro sv k hr hk
  refine h.own sv k ?_ hk
  obtain ⟨_, _, _, _, _, sv, h1, h2⟩ := h
  have := h1.more o
  unfold Row at this hr h1 ⊢
  rw [this] at hr
  rw [h1]
  exact hr
theorem KeptW.later {C kb vb fb : Nat} {G : List (Int × Int)} {w w' : World} (h : KeptW C kb vb fb G w) (hb : Below w.heap.size w w') : KeptW C kb vb fb G w' :=
  ⟨h.1, h.2.1.later hb, h.2.2.later (S := fun _ => False) (.of_below hb) (fun _ h => h.elim)⟩

theorem imin (a b : Int) : min a b = if a ≤ b then a else b := rfl

/-- what a closure over a keeper does: x at block xb stays -/
def Kept1 (C kb vb fb xb : Nat) (x : Int × Int) (G : List (Int × Int)) (w : World) (e : Ending) (w' : World) : Prop :=
  e = .returned (.tuple #[]) ∧ KeptW C kb vb fb G w' ∧ Row w' xb 24 #[.int .i64 x.1, .int .i64 x.2] ∧ Only (fun k => k = vb ∨ C ≤ k) w w'

set_option maxHeartbeats 1600000 in
theorem take1_any {C kb vb fb xb : Nat} {G : List (Int × Int)} {x : Int × Int} {w : World} (y : Int × Int) (h : KeptW C kb vb fb G w) (hx : Row w xb 24 #[.int .i64 x.1, .int .i64 x.2]) (hxC : xb < C) (hC : C ≤ w.heap.size) (hl : G.length ≤ 50000) :
    Calls Try.prog 48 #[spv y, .pointer (some ⟨fb, 0, none⟩), .pointer (some ⟨xb, 0, none⟩)] w (Kept1 C kb vb fb xb x (G ++ takeY x y) w) := by
  obtain ⟨a, b⟩ := y
  obtain ⟨c, d⟩ := x
  have h1 := h.later (bl_alloc (Below.refl _ _) (.cells #[.int .i64 a, .int .i64 b] 24))
  have hx1 := hx.more (.cells #[.int .i64 a, .int .i64 b] 24)
  have hy1 := Row.made w 24 #[.int .i64 a, .int .i64 b]
  have HB := Lib.hid (show Only (fun k => k = vb ∨ C ≤ k) w (w.alloc (.cells #[.int .i64 a, .int .i64 b] 24)) from (Only.refl _ _).alloc _)
  have HOWN := Lib.hid (h.own1 (.cells #[.int .i64 a, .int .i64 b] 24))
  have g0 := h1.2.1.read (i := 0) rfl
  have g1 := hx1.read (i := 0) rfl
  have g2 := hx1.read (i := 1) rfl
  have H1 := Lib.hid h1
  have HX1 := Lib.hid hx1
  have HY1 := Lib.hid hy1
  have hne := (h1.2.2.ne hx1 (by decide) (by decide)).2
  have hney := (h1.2.2.ne hy1 (by decide) (by decide)).2
  clear h hx h1 hx1 hy1
  have htk : G ++ takeY (c, d) (a, b) = (G ++ keepF (a, min b c)) ++ keepF (max a d, b) := by simp [takeY]
  have HT := Lib.hid htk
  clear htk
  have hk1 := keepF_len (a, min b c)
  show Calls Try.prog 48 #[.agg #[.int .i64 a, .int .i64 b], _, _] w _
  rcases Int.lt_or_le c b with m1 | m1
  all_goals rcases Int.lt_or_le a d with m2 | m2
  all_goals
    first | have hmin : min b c = c := by omega | have hmin : min b c = b := by omega
    first | have hmax : max a d = d := by omega | have hmax : max a d = a := by omega
    rw [hmin, hmax] at HT
    rw [hmin] at hk1
    clear hmin hmax
    go_enter Try.func48, Try.ntmps48
    go_wp2_with fail
    refine (keep_any w.heap.size (a, _) H1.out.2.2 HOWN.out (by simp; omega) (by omega)).mono ?_
    rintro e w1 hd
    obtain rfl := hd.1
    have hsz := hd.2.2.size
    have H2 := Lib.hid (H1.out.done hd)
    have HO2 := Lib.hid hd.2.2
    have hx2 := HX1.out.only HO2.out (by omega)
    have hy2 := HY1.out.only HO2.out (by omega)
    have p0 := H2.out.2.1.read (i := 0) rfl
    have p1 := hx2.read (i := 0) rfl
    have p2 := hx2.read (i := 1) rfl
    have p3 := hy2.read (i := 0) rfl
    have p4 := hy2.read (i := 1) rfl
    have HX2 := Lib.hid hx2
    clear hd hx2 hy2 g0 g1 g2
    simp at hsz
    go_wp2_with fail
    refine (keep_any w1.heap.size (_, b) H2.out.2.2 H2.out.own (by omega) (by simp; omega)).mono ?_
    rintro e w2 hd
    obtain rfl := hd.1
    have H3 := Lib.hid (H2.out.done hd)
    have HO3 := Lib.hid hd.2.2
    clear hd
    go_wp2_with fail
    go_end0
    exact ⟨rfl, by rw [HT.out]; exact H3.out, HX2.out.only HO3.out (by omega), (HB.out.andThen HO2.out (fun k _ hk => by omega)).andThen HO3.out (fun k _ hk => by omega)⟩

set_option maxHeartbeats 1600000 in
theorem gaps1_any {C kb vb fb nb tb : Nat} {G : List (Int × Int)} {f to : Int} {w : World} (y : Int × Int) (h : KeptW C kb vb fb G w) (hn : Row w nb 3 #[.int .i64 f]) (ht : Row w tb 3 #[.int .i64 to]) (hnC : nb < C) (htC : tb < C) (hnt : tb ≠ nb) (hC : C ≤ w.heap.size) (hl : G.length ≤ 50000) :
    Calls Try.prog 54 #[spv y, .pointer (some ⟨fb, 0, none⟩), .pointer (some ⟨nb, 0, none⟩), .pointer (some ⟨tb, 0, none⟩)] w fun e w' => e = .returned (.tuple #[]) ∧ KeptW C kb vb fb (G ++ keepF (f, min y.1 to)) w' ∧ Row w' nb 3 #[.int .i64 y.2] ∧ Row w' tb 3 #[.int .i64 to] ∧ Only (fun k => k = vb ∨ k = nb ∨ C ≤ k) w w' := by
  obtain ⟨a, b⟩ := y
  have h1 := h.later (bl_alloc (Below.refl _ _) (.cells #[.int .i64 a, .int .i64 b] 24))
  have hn1 := hn.more (.cells #[.int .i64 a, .int .i64 b] 24)
  have ht1 := ht.more (.cells #[.int .i64 a, .int .i64 b] 24)
  have hy1 := Row.made w 24 #[.int .i64 a, .int .i64 b]
  have HB := Lib.hid (show Only (fun k => k = vb ∨ k = nb ∨ C ≤ k) w (w.alloc (.cells #[.int .i64 a, .int .i64 b] 24)) from (Only.refl _ _).alloc _)
  have HOWN := Lib.hid (h.own1 (.cells #[.int .i64 a, .int .i64 b] 24))
  have g0 := h1.2.1.read (i := 0) rfl
  have g1 := hn1.read (i := 0) rfl
  have g2 := ht1.read (i := 0) rfl
  have H1 := Lib.hid h1
  have HN1 := Lib.hid hn1
  have HT1 := Lib.hid ht1
  have HY1 := Lib.hid hy1
  have hne := (h1.2.2.ne hn1 (by decide) (by decide))
  have hne2 := (h1.2.2.ne ht1 (by decide) (by decide))
  have hney := (h1.2.2.ne hy1 (by decide) (by decide)).2
  have hnf : nb ≠ fb := hn1.apart h1.2.1 (by decide)
  clear h hn ht h1 hn1 ht1 hy1
  have hmin : min a to = if a ≤ to then a else to := rfl
  have HG := Lib.hid (show G ++ keepF (f, min a to) = G ++ keepF (f, min a to) from rfl)
  show Calls Try.prog 54 #[.agg #[.int .i64 a, .int .i64 b], _, _, _] w _
  rcases Int.lt_or_le to a with m1 | m1
  all_goals
    first | rw [if_neg (by omega)] at hmin | rw [if_pos (by omega)] at hmin
    have HM := Lib.hid hmin
    clear hmin
    go_enter Try.func54, Try.ntmps54
    go_wp2_with fail
    refine (keep_any w.heap.size (f, _) H1.out.2.2 HOWN.out (by simp; omega) (by omega)).mono ?_
    rintro e w1 hd
    obtain rfl := hd.1
    have hsz := hd.2.2.size
    have H2 := Lib.hid (H1.out.done hd)
    have HO2 := Lib.hid hd.2.2
    have hn2 := HN1.out.only HO2.out (by omega)
    have ht2 := HT1.out.only HO2.out (by omega)
    have hy2 := HY1.out.only HO2.out (by omega)
    have p1 := hn2.read (i := 0) rfl
    have p3 := hy2.read (i := 0) rfl
    have p4 := hy2.read (i := 1) rfl
    have fn := hn2.free 0
    have HN2 := Lib.hid (hn2.written 0 (.int .i64 b))
    have HT2 := Lib.hid (ht2.elsewhere (p := ⟨nb, 0, none⟩) hnt (.int .i64 b))
    have HO3 := Lib.hid (show Only (fun k => k = nb) w1 (w1.setCell ⟨nb, 0, none⟩ (.int .i64 b)) from (Only.refl (fun k => k = nb) _).set (p := ⟨nb, 0, none⟩) (.inl rfl) _)
    have H3 := Lib.hid (show KeptW C kb vb fb (G ++ keepF (f, min a to)) (w1.setCell ⟨nb, 0, none⟩ (.int .i64 b)) from
      ⟨H2.out.1, H2.out.2.1.only HO3.out (fun e => hnf e.symm), by rw [HM.out]; exact H2.out.2.2.later HO3.out (fun k hk => by subst hk; exact ⟨hne.1, hne.2, hnC⟩)⟩)
    clear hd hn2 hy2 ht2 g0 g1 g2
    go_wp2_with fail
    go_end0
    refine ⟨rfl, H3.out, HN2.out, HT2.out, (HB.out.andThen HO2.out (fun k _ hk => ?_)).andThen HO3.out (fun k _ hk => ?_)⟩
    · rcases hk with hk | hk
      · exact .inl hk
      · exact .inr (.inr hk.1)
    · exact .inr (.inl hk)
end Go.Proofs.Ytmaefeckkodllaa
