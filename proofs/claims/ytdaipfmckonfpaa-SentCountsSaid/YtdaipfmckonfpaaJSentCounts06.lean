/-
  More closures of package spans: how many, all, one of them; a keeper made; parts kept. The closure of Add: spans ahead, spans behind, one span of what it meets. The calls of package spans that only ask: how many, all, one of them, the spans, the gaps; and what takes out. The calls of package spans that hand spans out, and the one that takes places out.
-/
import Derived.Test.YtdaipfmckonfpaaJSentCounts05
import Derived.Laws.CopyOwn
import Derived.Laws.CopyRow
import Derived.Laws.EntriesVeiled
import Derived.Deep.Onto
namespace Go.Proofs.Ytdaipfmckonfpaa
open Go.RowKit

set_option maxHeartbeats 400000 in
theorem keeper_any (vb : Nat) (w : World) :
    Calls Try.prog 152 #[.pointer (some ⟨vb, 0, none⟩)] w fun e w' => e = .returned (.func (.func 187) #[] #[.pointer (some ⟨w.heap.size, 0, none⟩)]) ∧ w' = w.alloc (.cells #[.pointer (some ⟨vb, 0, none⟩)] 206) := by
  go_enter Try.func152, Try.ntmps152
  go_wp2
  go_ret
  exact ⟨rfl, rfl⟩

theorem only_box {w : World} {o : Obj} {S : Nat → Prop} {p : Addr} {x : Value} (hp : S p.block) : Only S w ((w.alloc o).setCell p x) :=
  ((Only.refl S w).alloc o).set (.inl hp) x

set_option maxHeartbeats 400000 in
theorem count1_any {nb : Nat} {n : Int} {w : World} (y : Int × Int) (h : Row w nb 3 #[.int .i64 n]) (hn : 0 ≤ n ∧ n ≤ 1000000000000) (hy : 0 ≤ y.1 ∧ y.1 ≤ y.2 ∧ y.2 ≤ 65536) :
    Calls Try.prog 150 #[spv y, .pointer (some ⟨nb, 0, none⟩)] w fun e w' => e = .returned (.tuple #[]) ∧ Row w' nb 3 #[.int .i64 (n + (y.2 - y.1))] ∧ Only (fun k => k = nb) w w' := by
  obtain ⟨a, b⟩ := y
  have c0 := (h.more (.cells #[.int .i64 a, .int .i64 b] 75)).read (i := 0) rfl
  have f0 := (h.more (.cells #[.int .i64 a, .int .i64 b] 75)).free 0
  have HR := Lib.hid ((h.more (.cells #[.int .i64 a, .int .i64 b] 75)).written 0 (.int .i64 (n + (b - a))))
  have HO := Lib.hid (only_box (w := w) (o := .cells #[.int .i64 a, .int .i64 b] 75) (S := fun k => k = nb) (p := ⟨nb, 0, none⟩) (x := .int .i64 (n + (b - a))) rfl)
  clear h
  simp only at hy
  show Calls Try.prog 150 #[.agg #[.int .i64 a, .int .i64 b], _] w _
  go_enter Try.func150, Try.ntmps150
  go_wp2
  go_end0
  exact ⟨rfl, HR.out, HO.out⟩

/-- a closure's call that stores a bool -/
def BoolDone (hb : Nat) (v : Bool) (w : World) (e : Ending) (w' : World) : Prop := e = .returned (.tuple #[]) ∧ Row w' hb 4 #[.bool v] ∧ Only (fun k => k = hb) w w'
theorem bool_done {hb : Nat} {h v v' : Bool} {w : World} (hr : Row w hb 4 #[.bool h]) (o : Obj) (he : v = v') : BoolDone hb v w (.returned (.tuple #[])) ((w.alloc o).setCell ⟨hb, 0, none⟩ (.bool v')) := by
  subst he
  exact ⟨rfl, (hr.more o).written 0 (.bool v), only_box rfl⟩

set_option maxHeartbeats 800000 in
theorem has1_any {hb xb : Nat} {h : Bool} {x : Int × Int} {w : World} (y : Int × Int) (v : Bool) (hv : (h || decide (y.1 ≤ x.1 ∧ x.2 ≤ y.2)) = v) (hr : Row w hb 4 #[.bool h]) (hx : Row w xb 75 #[.int .i64 x.1, .int .i64 x.2]) :
    Calls Try.prog 146 #[spv y, .pointer (some ⟨hb, 0, none⟩), .pointer (some ⟨xb, 0, none⟩)] w (BoolDone hb v w) := by
  obtain ⟨a, b⟩ := y
  obtain ⟨c, d⟩ := x
  have c0 := (hr.more (.cells #[.int .i64 a, .int .i64 b] 75)).read (i := 0) rfl
  have f0 := (hr.more (.cells #[.int .i64 a, .int .i64 b] 75)).free 0
  have k1 := (hx.more (.cells #[.int .i64 a, .int .i64 b] 75)).read (i := 0) rfl
  have k2 := (hx.more (.cells #[.int .i64 a, .int .i64 b] 75)).read (i := 1) rfl
  have HD := Lib.hid (fun v v' (h : v = v') => bool_done (v := v) (v' := v') hr (.cells #[.int .i64 a, .int .i64 b] 75) h)
  clear hr hx
  show Calls Try.prog 146 #[.agg #[.int .i64 a, .int .i64 b], _, _] w _
  cases h
  · by_cases h1 : a ≤ c
    · by_cases h2 : d ≤ b
      · obtain rfl : v = true := by rw [← hv]; simp [h1, h2]
        clear hv
        go_enter Try.func146, Try.ntmps146
        go_wp2
        go_end0
        exact HD.out _ _ rfl
      · obtain rfl : v = false := by rw [← hv]; simp [h2]
        clear hv
        go_enter Try.func146, Try.ntmps146
        go_wp2
        go_end0
        exact HD.out _ _ rfl
    · obtain rfl : v = false := by rw [← hv]; simp [h1]
      clear hv
      go_enter Try.func146, Try.ntmps146
      go_wp2
      go_end0
      exact HD.out _ _ rfl
  · obtain rfl : v = true := by rw [← hv]; simp []
    clear hv
    go_enter Try.func146, Try.ntmps146
    go_wp2
    go_end0
    exact HD.out _ _ rfl

/-- a keeper's variables and others: a variable fb of the keeper itself, the span x at block xb, a number at block nb -/
def KeptW (C kb vb fb : Nat) (G : List (Int × Int)) (w : World) : Prop :=
  fb < C ∧ Row w fb 200 #[.func (.func 187) #[] #[.pointer (some ⟨kb, 0, none⟩)]] ∧ Kept C kb vb G w

theorem Kept.ne {C kb vb : Nat} {G : List (Int × Int)} {w : World} (h : Kept C kb vb G w) {g : Nat} {t : TypeId} {cs : Array Value} (hr : Row w g t cs) (h1 : t ≠ 206) (h2 : t ≠ 72) : g ≠ kb ∧ g ≠ vb := by
  obtain ⟨_, _, k1, sv, k2, _⟩ := h
  exact ⟨hr.apart k1 h1, hr.apart k2 h2⟩
theorem KeptW.done {C kb vb fb : Nat} {G G' : List (Int × Int)} {w w' : World} {e : Ending} (h : KeptW C kb vb fb G w) {D : Nat} (hd : KeepDone C D kb vb G' w e w') : KeptW C kb vb fb G' w' := by
  obtain ⟨h1, h2, h3⟩ := h
  obtain ⟨_, h4, h5⟩ := hd
  exact ⟨h1, h2.only h5 (fun hk => by
    rcases hk with hk | hk
    · exact (h3.ne h2 (by decide) (by decide)).2 hk
    · omega), h4⟩
theorem KeptW.own {C kb vb fb : Nat} {G : List (Int × Int)} {w : World} (h : KeptW C kb vb fb G w) : ∀ sv k, Row w vb 72 #[sv] → sv.ownBlock = some k → k < w.heap.size := by
  obtain ⟨_, _, _, _, _, sv, h1, h2⟩ := h
  intro sv' k hr hk
  unfold Row at h1 hr
  rw [h1] at hr
  injection hr with hr
  injection hr with hr _
  injection hr with hr
  injection hr with hr _
  subst hr
  exact (h2.lt k hk).2
theorem KeptW.own1 {C kb vb fb : Nat} {G : List (Int × Int)} {w : World} (h : KeptW C kb vb fb G w) (o : Obj) : ∀ sv k, Row (w.alloc o) vb 72 #[sv] → sv.ownBlock = some k → k < w.heap.size := by
  intro sv k hr hk
  refine h.own sv k ?_ hk
  obtain ⟨_, _, _, _, _, sv, h1, h2⟩ := h
  have := h1.more o
  unfold Row at this hr h1 ⊢
  rw [this] at hr
  rw [h1]
  exact hr
theorem KeptW.later {C kb vb fb : Nat} {G : List (Int × Int)} {w w' : World} (h : KeptW C kb vb fb G w) (hb : Below w.heap.size w w') : KeptW C kb vb fb G w' :=
  ⟨h.1, h.2.1.later hb, h.2.2.later (S := fun _ => False) (.of_below hb) (fun _ h => h.elim)⟩

/-- what a closure over a keeper does: x at block xb stays -/
def Kept1 (C kb vb fb xb : Nat) (x : Int × Int) (G : List (Int × Int)) (w : World) (e : Ending) (w' : World) : Prop :=
  e = .returned (.tuple #[]) ∧ KeptW C kb vb fb G w' ∧ Row w' xb 75 #[.int .i64 x.1, .int .i64 x.2] ∧ Only (fun k => k = vb ∨ C ≤ k) w w'

set_option maxHeartbeats 1600000 in
theorem take1_any {C kb vb fb xb : Nat} {G : List (Int × Int)} {x : Int × Int} {w : World} (y : Int × Int) (h : KeptW C kb vb fb G w) (hx : Row w xb 75 #[.int .i64 x.1, .int .i64 x.2]) (hxC : xb < C) (hC : C ≤ w.heap.size) (hl : G.length ≤ 50000) :
    Calls Try.prog 153 #[spv y, .pointer (some ⟨fb, 0, none⟩), .pointer (some ⟨xb, 0, none⟩)] w (Kept1 C kb vb fb xb x (G ++ takeY x y) w) := by
  obtain ⟨a, b⟩ := y
  obtain ⟨c, d⟩ := x
  have h1 := h.later (bl_alloc (Below.refl _ _) (.cells #[.int .i64 a, .int .i64 b] 75))
  have hx1 := hx.more (.cells #[.int .i64 a, .int .i64 b] 75)
  have hy1 := Row.made w 75 #[.int .i64 a, .int .i64 b]
  have HB := Lib.hid (show Only (fun k => k = vb ∨ C ≤ k) w (w.alloc (.cells #[.int .i64 a, .int .i64 b] 75)) from (Only.refl _ _).alloc _)
  have HOWN := Lib.hid (h.own1 (.cells #[.int .i64 a, .int .i64 b] 75))
  have g0 := h1.2.1.read (i := 0) rfl
  have g1 := hx1.read (i := 0) rfl
  have g2 := hx1.read (i := 1) rfl
  have H1 := Lib.hid h1
  have HX1 := Lib.hid hx1
  have HY1 := Lib.hid hy1
  have hne := (h1.2.2.ne hx1 (by decide) (by decide)).2
  have hney := (h1.2.2.ne hy1 (by decide) (by decide)).2
  clear h hx h1 hx1 hy1
  have htk : G ++ takeY (c, d) (a, b) = (G ++ keepF (a, min b c)) ++ keepF (max a d, b) := by simp [takeY]
  have HT := Lib.hid htk
  clear htk
  have hk1 := keepF_len (a, min b c)
  show Calls Try.prog 153 #[.agg #[.int .i64 a, .int .i64 b], _, _] w _
  rcases Int.lt_or_le c b with m1 | m1
  all_goals rcases Int.lt_or_le a d with m2 | m2
  all_goals
    first | have hmin : min b c = c := by omega | have hmin : min b c = b := by omega
    first | have hmax : max a d = d := by omega | have hmax : max a d = a := by omega
    rw [hmin, hmax] at HT
    rw [hmin] at hk1
    go_enter Try.func153, Try.ntmps153
    go_wp2_with fail
    refine (keep_any w.heap.size (a, _) H1.out.2.2 HOWN.out (by simp; omega) (by omega)).mono ?_
    rintro e w1 hd
    obtain rfl := hd.1
    have hsz := hd.2.2.size
    have H2 := Lib.hid (H1.out.done hd)
    have HO2 := Lib.hid hd.2.2
    have hx2 := HX1.out.only HO2.out (by omega)
    have hy2 := HY1.out.only HO2.out (by omega)
    have p0 := H2.out.2.1.read (i := 0) rfl
    have p1 := hx2.read (i := 0) rfl
    have p2 := hx2.read (i := 1) rfl
    have p3 := hy2.read (i := 0) rfl
    have p4 := hy2.read (i := 1) rfl
    have HX2 := Lib.hid hx2
    clear hd hx2 hy2 g0 g1 g2
    simp at hsz
    go_wp2_with fail
    refine (keep_any w1.heap.size (_, b) H2.out.2.2 H2.out.own (by omega) (by simp; omega)).mono ?_
    rintro e w2 hd
    obtain rfl := hd.1
    have H3 := Lib.hid (H2.out.done hd)
    have HO3 := Lib.hid hd.2.2
    clear hd
    go_wp2_with fail
    go_end0
    exact ⟨rfl, by rw [HT.out]; exact H3.out, HX2.out.only HO3.out (by omega), (HB.out.andThen HO2.out (fun k _ hk => by omega)).andThen HO3.out (fun k _ hk => by omega)⟩

end Go.Proofs.Ytdaipfmckonfpaa
namespace Go.Proofs.Ytdaipfmckonfpaa
open Go.RowKit

/-- the variables of Add: x at block xb; the spans ahead in ab, those behind in bb, whose memory lies from C on, each apart -/
def Adding (C xb ab bb : Nat) (s : (Int × Int) × List (Int × Int) × List (Int × Int)) (w : World) : Prop :=
  xb < C ∧ ab < C ∧ bb < C ∧ ab ≠ bb ∧ Row w xb 75 #[.int .i64 s.1.1, .int .i64 s.1.2] ∧
    ∃ sa sb, Row w ab 72 #[sa] ∧ Row w bb 72 #[sb] ∧ w.ownsRow C 75 2 sa s.2.1.length (spc s.2.1) ∧ w.ownsRow C 75 2 sb s.2.2.length (spc s.2.2) ∧ ∀ k, sa.ownBlock = some k → sb.ownBlock ≠ some k

theorem Adding.later {C xb ab bb : Nat} {s : (Int × Int) × List (Int × Int) × List (Int × Int)} {w w' : World} (h : Adding C xb ab bb s w) (hb : Below w.heap.size w w') : Adding C xb ab bb s w' := by
  obtain ⟨h1, h2, h3, h4, h5, sa, sb, h6, h7, h8, h9, h10⟩ := h
  exact ⟨h1, h2, h3, h4, h5.later hb, sa, sb, h6.later hb, h7.later hb, own_only (S := fun _ => False) h8 (.of_below hb) (fun _ _ h => h), own_only (S := fun _ => False) h9 (.of_below hb) (fun _ _ h => h), h10⟩

/-- what the closure of Add does -/
def AddDone (C xb ab bb : Nat) (s : (Int × Int) × List (Int × Int) × List (Int × Int)) (w : World) (e : Ending) (w' : World) : Prop :=
  e = .returned (.tuple #[]) ∧ Adding C xb ab bb s w' ∧ Only (fun k => k = xb ∨ k = ab ∨ k = bb ∨ C ≤ k) w w'

/-- appended ahead -/
theorem ahead_done {C xb ab bb g cap : Nat} {x : Int × Int} {A B : List (Int × Int)} {w W W2 : World} {sa : Value} {a b : Int} {o : Obj} (h : Adding C xb ab bb (x, A, B) W) (hra : Row W ab 72 #[sa]) (hb : Below w.heap.size w W)
    (hown : W2.ownsRow C 75 2 (.slice (some ⟨g, 0, none⟩) (A.length + 1) cap) (A.length + 1) (spc A ++ [.int .i64 a, .int .i64 b])) (hgrow : (W.alloc o).grownBy W2 sa.ownBlock) (hgg : sa.ownBlock = some g ∨ g = W.heap.size + 1) :
    AddDone C xb ab bb (x, A ++ [(a, b)], B) w (.returned (.tuple #[])) (W2.setCell ⟨ab, 0, none⟩ (.slice (some ⟨g, 0, none⟩) (A.length + 1) cap)) := by
  obtain ⟨h1, h2, h3, h4, h5, sa', sb, h6, h7, h8, h9, h10⟩ := h
  have e : sa' = sa := by
    unfold Row at h6 hra
    rw [h6] at hra
    injection hra with hr
    injection hr with hr _
    injection hr with hr
    injection hr with hr _
  subst e
  simp only at h5 h8 h9
  have hlt := fun k hk => h8.lt k hk
  have hltb := fun k hk => h9.lt k hk
  have n1 : sa'.ownBlock ≠ some xb := fun hk => by have := (hlt _ hk).1; omega
  have n2 : sa'.ownBlock ≠ some ab := fun hk => by have := (hlt _ hk).1; omega
  have n3 : sa'.ownBlock ≠ some bb := fun hk => by have := (hlt _ hk).1; omega
  have r1 := grown_row (h5.more o) hgrow n1
  have r2 := grown_row (h6.more o) hgrow n2
  have r3 := grown_row (h7.more o) hgrow n3
  have o1 : W2.ownsRow C 75 2 sb B.length (spc B) := (h9.alloc o).kept hgrow (by
    rcases hs : sb.ownBlock with _ | k
    · exact .inl rfl
    · exact .inr fun he => h10 k he.symm hs)
  have hset : Only (fun k => k = ab) W2 (W2.setCell ⟨ab, 0, none⟩ (.slice (some ⟨g, 0, none⟩) (A.length + 1) cap)) := (Only.refl (fun k => k = ab) _).set (p := ⟨ab, 0, none⟩) (.inl rfl) _
  refine ⟨rfl, ⟨h1, h2, h3, h4, r1.elsewhere (p := ⟨ab, 0, none⟩) (r1.apart r2 (by decide)) _, _, sb, r2.written 0 _, r3.elsewhere (p := ⟨ab, 0, none⟩) (fun e => h4 e.symm) _, ?_, own_only o1 hset (fun k hk he => by have := (hltb k hk).1; omega), fun k hk => ?_⟩, ?_⟩
  · simp only
    rw [spc_append, List.length_append]
    exact own_only hown hset (fun k hk he => by have := (hown.lt k hk).1; omega)
  · have e : g = k := by simpa [Value.ownBlock] using hk
    subst e
    rcases hgg with hgg | hgg
    · exact h10 _ hgg
    · intro hk'
      have := (hltb _ hk').2
      omega
  · have h11 : Only (fun k => k = xb ∨ k = ab ∨ k = bb ∨ C ≤ k) w W2 := ((Only.of_below hb).alloc o).grown hgrow (fun k hk => .inl (.inr (.inr (.inr (hlt k hk).1))))
    exact h11.set (p := ⟨ab, 0, none⟩) (.inl (.inr (.inl rfl))) _

/-- appended behind -/
theorem behind_done {C xb ab bb g cap : Nat} {x : Int × Int} {A B : List (Int × Int)} {w W W2 : World} {sb : Value} {a b : Int} {o : Obj} (h : Adding C xb ab bb (x, A, B) W) (hrb : Row W bb 72 #[sb]) (hb : Below w.heap.size w W)
    (hown : W2.ownsRow C 75 2 (.slice (some ⟨g, 0, none⟩) (B.length + 1) cap) (B.length + 1) (spc B ++ [.int .i64 a, .int .i64 b])) (hgrow : (W.alloc o).grownBy W2 sb.ownBlock) (hgg : sb.ownBlock = some g ∨ g = W.heap.size + 1) :
    AddDone C xb ab bb (x, A, B ++ [(a, b)]) w (.returned (.tuple #[])) (W2.setCell ⟨bb, 0, none⟩ (.slice (some ⟨g, 0, none⟩) (B.length + 1) cap)) := by
  obtain ⟨h1, h2, h3, h4, h5, sa, sb', h6, h7, h8, h9, h10⟩ := h
  have e : sb' = sb := by
    unfold Row at h7 hrb
    rw [h7] at hrb
    injection hrb with hr
    injection hr with hr _
    injection hr with hr
    injection hr with hr _
  subst e
  simp only at h5 h8 h9
  have hlt := fun k hk => h8.lt k hk
  have hltb := fun k hk => h9.lt k hk
  have n1 : sb'.ownBlock ≠ some xb := fun hk => by have := (hltb _ hk).1; omega
  have n2 : sb'.ownBlock ≠ some ab := fun hk => by have := (hltb _ hk).1; omega
  have n3 : sb'.ownBlock ≠ some bb := fun hk => by have := (hltb _ hk).1; omega
  have r1 := grown_row (h5.more o) hgrow n1
  have r2 := grown_row (h6.more o) hgrow n2
  have r3 := grown_row (h7.more o) hgrow n3
  have o1 : W2.ownsRow C 75 2 sa A.length (spc A) := (h8.alloc o).kept hgrow (by
    rcases hs : sa.ownBlock with _ | k
    · exact .inl rfl
    · exact .inr fun he => h10 k hs he.symm)
  have hset : Only (fun k => k = bb) W2 (W2.setCell ⟨bb, 0, none⟩ (.slice (some ⟨g, 0, none⟩) (B.length + 1) cap)) := (Only.refl (fun k => k = bb) _).set (p := ⟨bb, 0, none⟩) (.inl rfl) _
  refine ⟨rfl, ⟨h1, h2, h3, h4, r1.elsewhere (p := ⟨bb, 0, none⟩) (r1.apart r3 (by decide)) _, sa, _, r2.elsewhere (p := ⟨bb, 0, none⟩) h4 _, r3.written 0 _, own_only o1 hset (fun k hk he => by have := (hlt k hk).1; omega), ?_, fun k hk => ?_⟩, ?_⟩
  · simp only
    rw [spc_append, List.length_append]
    exact own_only hown hset (fun k hk he => by have := (hown.lt k hk).1; omega)
  · intro hk'
    have e : g = k := by simpa [Value.ownBlock] using hk'
    subst e
    rcases hgg with hgg | hgg
    · exact h10 _ hk hgg
    · have := (hlt _ hk).2
      omega
  · have h11 : Only (fun k => k = xb ∨ k = ab ∨ k = bb ∨ C ≤ k) w W2 := ((Only.of_below hb).alloc o).grown hgrow (fun k hk => .inl (.inr (.inr (.inr (hltb k hk).1))))
    exact h11.set (p := ⟨bb, 0, none⟩) (.inl (.inr (.inr (.inl rfl)))) _

/-- one span of both -/
theorem merge_done {C xb ab bb : Nat} {x : Int × Int} {A B : List (Int × Int)} {w : World} {o : Obj} {lo hi : Int} (h : Adding C xb ab bb (x, A, B) w) :
    AddDone C xb ab bb ((lo, hi), A, B) w (.returned (.tuple #[])) (((w.alloc o).setCell ⟨xb, 0, none⟩ (.int .i64 lo)).setCell ⟨xb, 1, none⟩ (.int .i64 hi)) := by
  have h' := h.later (bl_alloc (Below.refl _ _) o)
  obtain ⟨h1, h2, h3, h4, h5, sa, sb, h6, h7, h8, h9, h10⟩ := h'
  have hset : Only (fun k => k = xb) (w.alloc o) (((w.alloc o).setCell ⟨xb, 0, none⟩ (.int .i64 lo)).setCell ⟨xb, 1, none⟩ (.int .i64 hi)) := ((Only.refl (fun k => k = xb) _).set (p := ⟨xb, 0, none⟩) (.inl rfl) _).set (p := ⟨xb, 1, none⟩) (.inl rfl) _
  refine ⟨rfl, ⟨h1, h2, h3, h4, (h5.written 0 (.int .i64 lo)).written 1 (.int .i64 hi), sa, sb, h6.only hset (fun e => h5.apart h6 (by decide) e.symm), h7.only hset (fun e => h5.apart h7 (by decide) e.symm),
    own_only h8 hset (fun k hk e => by have := (h8.lt k hk).1; omega), own_only h9 hset (fun k hk e => by have := (h9.lt k hk).1; omega), h10⟩, ?_⟩
  exact ((Only.refl (fun k => k = xb ∨ k = ab ∨ k = bb ∨ C ≤ k) w).alloc o).andThen hset (fun k _ hk => .inl hk)

set_option maxHeartbeats 800000 in
theorem add1_any {C xb ab bb : Nat} {s : (Int × Int) × List (Int × Int) × List (Int × Int)} {w : World} (y : Int × Int) (h : Adding C xb ab bb s w) (hC : C ≤ w.heap.size) (hl : s.2.1.length ≤ 50000 ∧ s.2.2.length ≤ 50000) :
    Calls Try.prog 186 #[spv y, .pointer (some ⟨xb, 0, none⟩), .pointer (some ⟨ab, 0, none⟩), .pointer (some ⟨bb, 0, none⟩)] w (AddDone C xb ab bb (addStep s y) w) := by
  obtain ⟨⟨c, d⟩, A, B⟩ := s
  obtain ⟨a, b⟩ := y
  have h' := h.later (bl_alloc (Below.refl _ _) (.cells #[.int .i64 a, .int .i64 b] 75))
  have hy := Row.made w 75 #[.int .i64 a, .int .i64 b]
  obtain ⟨h1, h2, h3, h4, h5, sa, sb, h6, h7, h8, h9, h10⟩ := id h'
  obtain ⟨i0, hi, hi0, hi1, hi2⟩ := info75_parts
  have r0 := h5.read (i := 0) rfl
  have r1 := h5.read (i := 1) rfl
  have r2 := h6.read (i := 0) rfl
  have r3 := h7.read (i := 0) rfl
  have r4 := hy.read (i := 0) rfl
  have r5 := hy.read (i := 1) rfl
  have f0 := h5.free 0
  have f1 := h5.free 1
  have f2 := h6.free 0
  have f3 := h7.free 0
  have H6 := Lib.hid h6
  have H7 := Lib.hid h7
  have H8 := Lib.hid h8
  have H9 := Lib.hid h9
  have HA := Lib.hid h
  have HA' := Lib.hid h'
  have HBL := Lib.hid (bl_alloc (Below.refl w.heap.size w) (.cells #[.int .i64 a, .int .i64 b] 75))
  simp only at hl r0 r1
  have na : sa.ownBlock ≠ some ab := fun hk => by have := (h8.lt _ hk).1; omega
  have nb : sb.ownBlock ≠ some bb := fun hk => by have := (h9.lt _ hk).1; omega
  clear h h' h5 h6 h7 h8 h9 h10 hy
  show Calls Try.prog 186 #[.agg #[.int .i64 a, .int .i64 b], _, _, _] w _
  by_cases m1 : b < c
  · have HS := Lib.hid (show addStep ((c, d), A, B) (a, b) = ((c, d), A ++ [(a, b)], B) by unfold addStep; rw [if_pos m1])
    rw [HS.out]
    go_enter Try.func186, Try.ntmps186
    go_wp2_with (at_builtin; refine wpList_append_lies _ rfl _ _ _ (by rfl) C 75 i0 (.agg #[.int .i64 0, .int .i64 0]) 2 16 Try.underlying72 hi hi0 hi1 hi2 rfl (by omega) sa A.length _ (by rfl) (H8.out.alloc _) ⟨w.heap.size + 1, 0, none⟩ 1 1 [.int .i64 a, .int .i64 b] (by rfl) (by rfl) ?h1 (pair_one a b) (by omega) (by unfold maxLen; omega) (by omega) ?h6 (w.heap.size + 2) ?h7 ?_)
    case h6 => first | omega | (simp; omega)
    intro g cap w2 hown hgrow hgg hg2
    have hr2 := grown_row (H6.out.more (.cells #[.int .i64 a, .int .i64 b] 75)) hgrow na
    have c2 := hr2.read (i := 0) rfl
    have e2 := hr2.free 0
    have HF := Lib.hid (ahead_done (w := w) (cap := cap) HA'.out H6.out HBL.out hown hgrow (hgg.imp id (fun e => by simp; omega)))
    clear hown hgrow hgg
    go_wp2
    go_end0
    exact HF.out
  · by_cases m2 : d < a
    · have HS := Lib.hid (show addStep ((c, d), A, B) (a, b) = ((c, d), A, B ++ [(a, b)]) by unfold addStep; rw [if_neg m1, if_pos m2])
      rw [HS.out]
      go_enter Try.func186, Try.ntmps186
      go_wp2_with (at_builtin; refine wpList_append_lies _ rfl _ _ _ (by rfl) C 75 i0 (.agg #[.int .i64 0, .int .i64 0]) 2 16 Try.underlying72 hi hi0 hi1 hi2 rfl (by omega) sb B.length _ (by rfl) (H9.out.alloc _) ⟨w.heap.size + 1, 0, none⟩ 1 1 [.int .i64 a, .int .i64 b] (by rfl) (by rfl) ?k1 (pair_one a b) (by omega) (by unfold maxLen; omega) (by omega) ?k6 (w.heap.size + 2) ?k7 ?_)
      case k6 => first | omega | (simp; omega)
      intro g cap w2 hown hgrow hgg hg2
      have hr2 := grown_row (H7.out.more (.cells #[.int .i64 a, .int .i64 b] 75)) hgrow nb
      have c2 := hr2.read (i := 0) rfl
      have e2 := hr2.free 0
      have HF := Lib.hid (behind_done (w := w) (cap := cap) HA'.out H7.out HBL.out hown hgrow (hgg.imp id (fun e => by simp; omega)))
      clear hown hgrow hgg
      go_wp2
      go_end0
      exact HF.out
    · have HS := Lib.hid (show addStep ((c, d), A, B) (a, b) = ((min c a, max d b), A, B) by unfold addStep; rw [if_neg m1, if_neg m2])
      rw [HS.out]
      have HF := Lib.hid (fun lo hi => merge_done (o := .cells #[.int .i64 a, .int .i64 b] 75) (lo := lo) (hi := hi) HA.out)
      have HF := Lib.hid HF
      have cs : ∀ x, ((w.alloc (.cells #[.int .i64 a, .int .i64 b] 75)).setCell ⟨xb, 0, none⟩ x).frozen? ⟨xb, 1, none⟩ = false := fun x => by simpa using f1
      rcases Int.lt_or_le a c with m3 | m3
      all_goals rcases Int.lt_or_le d b with m4 | m4
      all_goals
        first | have hmin : min c a = a := by omega | have hmin : min c a = c := by omega
        first | have hmax : max d b = b := by omega | have hmax : max d b = d := by omega
        rw [hmin, hmax]
        go_enter Try.func186, Try.ntmps186
        go_wp2
        go_end0
        first
          | exact HF.out _ _
          | (try rw [hmin]
             try rw [hmax]
             exact HF.out _ _)
end Go.Proofs.Ytdaipfmckonfpaa
namespace Go.Proofs.Ytdaipfmckonfpaa
open Go.RowKit

theorem made1 (w : World) (o : Obj) (t : TypeId) (cs : Array Value) : Row ((w.alloc o).alloc (.cells cs t)) (w.heap.size + 1) t cs := by
  have := Row.made (w.alloc o) t cs
  simpa using this
theorem made2 (w : World) (o o' : Obj) (t : TypeId) (cs : Array Value) : Row (((w.alloc o).alloc o').alloc (.cells cs t)) (w.heap.size + 2) t cs := by
  have := made1 (w.alloc o) o' t cs
  simpa using this
theorem take_snoc {α : Type} {L : List α} {k : Nat} {y : α} (h : L[k]? = some y) : L.take (k + 1) = L.take k ++ [y] := by
  rw [List.take_add_one, h]
  rfl
theorem bl_only {B : Nat} {S : Nat → Prop} {w a b : World} (h : Below B w a) (ho : Only S a b) (hS : ∀ k, k < B → ¬ S k) (hB : B ≤ a.heap.size) : Below B w b := h.trans (ho.below hB hS)
theorem countF_le {L : List (Int × Int)} (h : ∀ y ∈ L, 0 ≤ y.1 ∧ y.1 ≤ y.2 ∧ y.2 ≤ 65536) : 0 ≤ countF L ∧ countF L ≤ 65536 * L.length := by
  induction L with
  | nil => simp [countF_nil]
  | cons y r ih =>
    have h1 := h y (List.mem_cons_self ..)
    have h2 := ih fun z hz => h z (List.mem_cons_of_mem _ hz)
    rw [countF_cons]
    simp
    omega
theorem Norm.each {L : List (Int × Int)} (h : Norm 0 L) : ∀ y ∈ L, 0 ≤ y.1 ∧ y.1 ≤ y.2 ∧ y.2 ≤ 65536 := fun y hy => by have := h.mem hy; omega
theorem Norm.at_ {L : List (Int × Int)} (h : Norm 0 L) {k : Nat} {y : Int × Int} (hy : L[k]? = some y) : 0 ≤ y.1 ∧ y.1 ≤ y.2 ∧ y.2 ≤ 65536 := h.each y (List.mem_of_getElem? hy)

theorem each_count {B p nb : Nat} {sv : Value} {L : List (Int × Int)} {w0 w : World} (hr : SRep B w0 p sv L) (hn : Norm 0 L) (hl : L.length ≤ 100000) (hb : Below w0.heap.size w0 w) (hnb : w0.heap.size ≤ nb) (hrow : Row w nb 3 #[.int .i64 0]) :
    Calls Try.prog 145 #[.pointer (some ⟨p, 0, none⟩), .func (.func 150) #[] #[.pointer (some ⟨nb, 0, none⟩)]] w fun e w' => e = .returned (.tuple #[]) ∧ Row w' nb 3 #[.int .i64 (countF L)] ∧ Below w0.heap.size w0 w' := by
  refine (seach_any (B := B) (sv := sv) (L := L) (by omega) (fun k W => Row W nb 3 #[.int .i64 (countF (L.take k))] ∧ Below w0.heap.size w0 W) w ⟨by simpa [countF_nil] using hrow, hb⟩ (fun k W h => hr.later h.2) (fun k W y hy h => ?_)).mono (fun e w' h => ⟨h.1, by simpa using h.2.1, h.2.2⟩)
  have hc := countF_le (L := L.take k) (fun z hz => hn.each z (List.mem_of_mem_take hz))
  have hk : (L.take k).length ≤ L.length := by simp; omega
  refine (count1_any y h.1 (by omega) (hn.at_ hy)).mono ?_
  rintro e w' ⟨rfl, h1, h2⟩
  refine ⟨rfl, ?_, bl_only h.2 h2 (fun k hk => by omega) h.2.size⟩
  rw [take_snoc hy, countF_snoc]
  exact h1

set_option maxHeartbeats 400000 in
theorem count_any {B p : Nat} {sv : Value} {L : List (Int × Int)} {w : World} (hr : SRep B w p sv L) (hn : Norm 0 L) (hl : L.length ≤ 100000) :
    Calls Try.prog 95 #[.pointer (some ⟨p, 0, none⟩)] w fun e w' => e = .returned (.int .i64 (countF L)) ∧ Below w.heap.size w w' := by
  have HE := Lib.hid (fun w1 => each_count (w := w1) (nb := w.heap.size) hr hn hl)
  have HR := Lib.hid hr
  clear hr
  go_enter Try.func95, Try.ntmps95
  go_wp2_with fail
  refine (HE.out _ ?_ (Nat.le_refl _) ?_).mono ?_
  · exact bl_alloc (Below.refl _ _) _
  · exact Row.made _ _ _
  rintro e w1 ⟨rfl, h1, hb⟩
  have c0 := h1.read (i := 0) rfl
  have HB := Lib.hid hb
  clear h1 hb
  go_wp2
  go_ret
  exact ⟨rfl, HB.out⟩

theorem each_has {B p hb xb : Nat} {sv : Value} {L : List (Int × Int)} {x : Int × Int} {w0 w : World} (hr : SRep B w0 p sv L) (hbl : Below w0.heap.size w0 w) (hnb : w0.heap.size ≤ hb) (hrow : Row w hb 4 #[.bool false]) (hx : Row w xb 75 #[.int .i64 x.1, .int .i64 x.2]) :
    Calls Try.prog 145 #[.pointer (some ⟨p, 0, none⟩), .func (.func 146) #[] #[.pointer (some ⟨hb, 0, none⟩), .pointer (some ⟨xb, 0, none⟩)]] w fun e w' => e = .returned (.tuple #[]) ∧ Row w' hb 4 #[.bool (hasF x L)] ∧ Row w' xb 75 #[.int .i64 x.1, .int .i64 x.2] ∧ Below w0.heap.size w0 w' := by
  refine (seach_any (B := B) (sv := sv) (L := L) (by omega) (fun k W => Row W hb 4 #[.bool (hasF x (L.take k))] ∧ Row W xb 75 #[.int .i64 x.1, .int .i64 x.2] ∧ Below w0.heap.size w0 W) w ⟨by simpa [hasF] using hrow, hx, hbl⟩ (fun k W h => hr.later h.2.2) (fun k W y hy h => ?_)).mono (fun e w' h => ⟨h.1, by simpa using h.2.1, h.2.2⟩)
  refine (has1_any y (hasF x (L.take (k + 1))) (by rw [take_snoc hy]; simp [hasF]) h.1 h.2.1).mono ?_
  rintro e w' ⟨rfl, h1, h2⟩
  exact ⟨rfl, h1, h.2.1.only h2 (fun e => h.1.apart h.2.1 (by decide) e.symm), bl_only h.2.2 h2 (fun k hk => by omega) h.2.2.size⟩
set_option maxHeartbeats 800000 in
theorem has_any {B p : Nat} {sv : Value} {L : List (Int × Int)} {w : World} (x : Int × Int) (hr : SRep B w p sv L) (v : Bool) (hv : (hasF x L && srightB x) = v) :
    Calls Try.prog 93 #[.pointer (some ⟨p, 0, none⟩), spv x] w fun e w' => e = .returned (.bool v) ∧ Below w.heap.size w w' := by
  obtain ⟨a, b⟩ := x
  have HE := Lib.hid (fun w1 => each_has (w := w1) (hb := w.heap.size + 1) (xb := w.heap.size) (x := (a, b)) hr)
  have HV := Lib.hid hv
  clear hr hv
  show Calls Try.prog 93 #[_, .agg #[.int .i64 a, .int .i64 b]] w _
  generalize hasF (a, b) L = h at *
  go_enter Try.func93, Try.ntmps93
  go_wp2_with fail
  refine (HE.out _ ?_ (by omega) ?_ ?_).mono ?_
  · exact bl_alloc (bl_alloc (Below.refl _ _) _) _
  · exact made1 _ _ _ _
  · exact (Row.made _ _ _).more _
  rintro e w1 ⟨rfl, h1, h2, hb⟩
  have c0 := h1.read (i := 0) rfl
  have c1 := h2.read (i := 0) rfl
  have c2 := h2.read (i := 1) rfl
  have HB := Lib.hid hb
  clear h1 h2 hb
  cases h
  · have HV' := Lib.hid (show false = v by rw [← HV.out]; rfl)
    go_wp2
    go_ret
    exact ⟨ret_bool HV'.out, HB.out⟩
  · have HV' := Lib.hid (show srightB (a, b) = v by rw [← HV.out]; simp)
    go_wp2_with (go_at_call 147; refine (right_any (a, b) _).mono ?_; rintro e w2 ⟨rfl, hb2⟩)
    go_ret
    exact ⟨ret_bool HV'.out, bl_step HB.out hb2⟩
set_option maxHeartbeats 400000 in
theorem has_nil (x : Int × Int) (w : World) : Calls Try.prog 93 #[.pointer none, spv x] w fun e w' => e = .returned (.bool false) ∧ Below w.heap.size w w' := by
  unfold spv
  go_enter Try.func93, Try.ntmps93
  go_wp2_with (go_at_call 145; refine (each_nil _ _).mono ?_; rintro e _ ⟨rfl, rfl⟩)
  go_ret
  exact ⟨rfl, bl_alloc (bl_alloc (Below.refl _ _) _) _⟩
set_option maxHeartbeats 400000 in
theorem spans_nil (w : World) : Calls Try.prog 96 #[.pointer none] w fun e w' => e = .returned (.slice none 0 0) ∧ w = w' := by
  go_enter Try.func96, Try.ntmps96
  go_wp2
  go_ret
  exact ⟨rfl, rfl⟩
set_option maxHeartbeats 400000 in
theorem add_arg (p : Nat) (x : Int × Int) (w : World) (h : srightB x = false) : Calls Try.prog 149 #[.pointer (some ⟨p, 0, none⟩), spv x] w fun e w' => e = .returned (.int .i64 1) ∧ Below w.heap.size w w' := by
  obtain ⟨a, b⟩ := x
  have H := Lib.hid h
  clear h
  show Calls Try.prog 149 #[_, .agg #[.int .i64 a, .int .i64 b]] w _
  go_enter Try.func149, Try.ntmps149
  go_wp2_with (go_at_call 151; refine (fault_arg p (a, b) _ H.out).mono ?_; rintro e w1 ⟨rfl, hb⟩)
  go_ret
  exact ⟨rfl, bl_step (bl_alloc (Below.refl _ _) _) hb⟩
set_option maxHeartbeats 400000 in
theorem take_arg (p : Nat) (x : Int × Int) (w : World) (h : srightB x = false) : Calls Try.prog 97 #[.pointer (some ⟨p, 0, none⟩), spv x] w fun e w' => e = .returned (.int .i64 1) ∧ Below w.heap.size w w' := by
  obtain ⟨a, b⟩ := x
  have H := Lib.hid h
  clear h
  show Calls Try.prog 97 #[_, .agg #[.int .i64 a, .int .i64 b]] w _
  go_enter Try.func97, Try.ntmps97
  go_wp2_with (go_at_call 151; refine (fault_arg p (a, b) _ H.out).mono ?_; rintro e w1 ⟨rfl, hb⟩)
  go_ret
  exact ⟨rfl, bl_step (bl_alloc (Below.refl _ _) _) hb⟩
end Go.Proofs.Ytdaipfmckonfpaa
namespace Go.Proofs.Ytdaipfmckonfpaa
open Go.RowKit

theorem run_copy_two {P : Program} (w : World) (dT sT ty elem : TypeId) (g dLen dCap : Nat) (a : Addr) (sLen sCap n : Nat) (cur : Array Value) (t : TypeId) (cs : List Value)
    (hu : P.underlying dT = some (.slice elem)) (hs : (P.info? elem).map (·.size) = some 2)
    (hg : w.heap[g]? = some (.cells cur t (0, 0))) (hn : n = Nat.min sLen dLen) (hcs : cs.length = n * 2)
    (hsrc : ∀ j v, cs[j]? = some v → w.cell? (a.add j) = some v) (hfit : cs.length ≤ cur.size) (h1 : ∀ v ∈ cs, v.oneCell' = true) :
    (Builtin.copy_ #[dT, sT] ty #[.slice (some ⟨g, 0, none⟩) dLen dCap, .slice (some a) sLen sCap]).run P w =
      .ok (goInt n) (w.setRow g (cur.toList.take 0 ++ cs ++ cur.toList.drop (0 + cs.length)).toArray) := by
  have hl := run_loadCells_list (P := P) w a cs hsrc
  have hst := run_storeCells_at P g 0 t cs 0 cur w hg (by simpa using hfit) h1
  cases hq : P.info? elem with
  | none => simp [hq] at hs
  | some i =>
    have hi : i.size = 2 := by simpa [hq] using hs
    simp [Builtin.copy_, run_underlying hu, Builtin.lenOf, Builtin.firstCells, sizeOf, typeInfo, hq, hi, ← hn, ← hcs, hl]
    have h2 := hst
    simp at h2
    rw [h2]
    rfl

def zero2 (n : Nat) : Array Value := madeCells #[.int .i64 0, .int .i64 0] (n * 2)
theorem make_spans (n : Nat) (h : n ≤ 1000000) (w : World) :
    (Instr.makeSlice 72 (.int .i64 (n : Int)) (.int .i64 (n : Int))).run Try.prog w = .ok (.slice (some ⟨w.heap.size, 0, none⟩) n n) (w.alloc (.cells (zero2 n) 75)) := by
  obtain ⟨i, hi, hz, hs, hb⟩ := info75_parts
  have h := run_make (P := Try.prog) w 72 75 i _ Try.underlying72 hi hz .i64 .i64 n n (by omega) (Int.le_refl _) (by rw [hb]; omega) (by omega)
  rw [h, hs, Int.toNat_natCast]
  rfl
theorem copy_spans {w : World} {g : Nat} {sv : Value} {B : Nat} {L : List (Int × Int)} (hr : Row w g 75 (zero2 L.length)) (ho : w.ownsRow B 75 2 sv L.length (spc L)) :
    ∃ w', (Builtin.copy_ #[72, 72] 3 #[.slice (some ⟨g, 0, none⟩) L.length L.length, sv]).run Try.prog w = .ok (.int .i64 (L.length : Int)) w' ∧ Row w' g 75 (spc L).toArray ∧ Only (fun k => k = g) w w' := by
  have hsz : (Try.prog.info? 75).map (·.size) = some 2 := by
    obtain ⟨i, hi, _, h1, _⟩ := info75_parts
    rw [hi]
    simp [h1]
  rcases ho.2 with ⟨rfl, h0⟩ | ⟨g', cap, cur, rfl, _, _⟩
  · have hL : L = [] := List.eq_nil_of_length_eq_zero h0
    subst hL
    have h := run_copy_nil (P := Try.prog) w 72 72 3 75 ⟨g, 0, none⟩ 0 0 Try.underlying72 (by rw [Option.isSome_iff_exists]; exact ⟨2, hsz⟩)
    have e : zero2 ([] : List (Int × Int)).length = (spc []).toArray := by simp [zero2, madeCells, spc]
    rw [e] at hr
    exact ⟨w, h, hr, Only.refl _ _⟩
  · have h := run_copy_two (P := Try.prog) w 72 72 3 75 g L.length L.length ⟨g', 0, none⟩ L.length cap L.length (zero2 L.length) 75 (spc L) Try.underlying72 hsz hr (Nat.min_self _).symm (length_spc L) (ho.cells (g := g') rfl) (by rw [length_spc]; simp [zero2, size_madeCells]) (spc_one L)
    have e : (zero2 L.length).toList.take 0 ++ spc L ++ (zero2 L.length).toList.drop (0 + (spc L).length) = spc L := by
      rw [List.take_zero, List.nil_append, List.drop_eq_nil_of_le (by rw [length_spc]; simp [zero2, size_madeCells]), List.append_nil]
    rw [e] at h
    refine ⟨_, h, setRow_heap w g _ _ 75 _ hr, ⟨rfl, rfl, rfl, by simp [World.setRow], fun k _ hk => setRow_other w g k _ hk⟩⟩

set_option maxRecDepth 100000 in
set_option maxHeartbeats 800000 in
theorem spans_any {B p : Nat} {sv : Value} {L : List (Int × Int)} {w : World} (hr : SRep B w p sv L) (hl : L.length ≤ 100000) :
    Calls Try.prog 96 #[.pointer (some ⟨p, 0, none⟩)] w fun e w' => e = .returned (.slice (some ⟨w.heap.size, 0, none⟩) L.length L.length) ∧ Row w' w.heap.size 75 (spc L).toArray ∧ Below w.heap.size w w' := by
  have hc : w.cell? ⟨p, 0, none⟩ = some sv := hr.2.1.read rfl
  have hmk := make_spans L.length (by omega) w
  have hr2 := hr.later (bl_alloc (Below.refl _ _) (.cells (zero2 L.length) 75))
  have hc2 : (w.alloc (.cells (zero2 L.length) 75)).cell? ⟨p, 0, none⟩ = some sv := hr2.2.1.read rfl
  obtain ⟨A, cap, rfl, _, _⟩ := sown_shape hr.2.2
  obtain ⟨w2, hcp, hrow, ho⟩ := copy_spans (Row.made w 75 (zero2 L.length)) hr2.2.2
  have HROW := Lib.hid hrow
  have HO := Lib.hid (bl_only (bl_alloc (Below.refl _ _) (.cells (zero2 L.length) 75)) ho (fun k hk h => by omega) (by simp))
  have HCP := Lib.hid hcp
  clear hrow ho hcp hr hr2
  generalize hnn : L.length = n at *
  have HNN := Lib.hid hnn
  clear hnn
  go_enter Try.func96, Try.ntmps96
  go_wp2_with fail
  rw [HCP.out]
  go_wp2
  go_ret
  exact ⟨rfl, HROW.out, HO.out⟩

theorem each_take {B C p kb vb fb xb : Nat} {sv : Value} {L : List (Int × Int)} {x : Int × Int} {w0 w : World} (hr : SRep B w0 p sv L) (hl : L.length ≤ 20000) (hbl : Below w0.heap.size w0 w)
    (hk : KeptW C kb vb fb [] w) (hrow : Row w xb 75 #[.int .i64 x.1, .int .i64 x.2]) (hxC : xb < C) (hC : C ≤ w.heap.size) (hv : w0.heap.size ≤ vb) (hC0 : w0.heap.size ≤ C) :
    Calls Try.prog 145 #[.pointer (some ⟨p, 0, none⟩), .func (.func 153) #[] #[.pointer (some ⟨fb, 0, none⟩), .pointer (some ⟨xb, 0, none⟩)]] w fun e w' => e = .returned (.tuple #[]) ∧ KeptW C kb vb fb (takeF x L) w' ∧ Below w0.heap.size w0 w' := by
  refine (seach_any (B := B) (sv := sv) (L := L) (by omega) (fun k W => KeptW C kb vb fb (takeF x (L.take k)) W ∧ Row W xb 75 #[.int .i64 x.1, .int .i64 x.2] ∧ Below w0.heap.size w0 W ∧ C ≤ W.heap.size) w ⟨by simpa [takeF] using hk, hrow, hbl, hC⟩ (fun k W h => hr.later h.2.2.1) (fun k W y hy h => ?_)).mono (fun e w' h => ⟨h.1, by simpa using h.2.1, h.2.2.2.1⟩)
  have hlen : (takeF x (L.take k)).length ≤ 50000 := by
    have h1 : (takeF x (L.take k)).length ≤ 2 * (L.take k).length := by
      generalize L.take k = M
      induction M with
      | nil => simp [takeF]
      | cons z r ih =>
        have h3 := keepF_len (z.1, min z.2 x.1)
        have h4 := keepF_len (max z.1 x.2, z.2)
        show (takeY x z ++ takeF x r).length ≤ _
        unfold takeY
        simp
        omega
    have h2 : (L.take k).length ≤ L.length := by simp; omega
    omega
  refine (take1_any y h.1 h.2.1 hxC h.2.2.2 hlen).mono ?_
  rintro e w' ⟨rfl, h1, h2, h3⟩
  refine ⟨rfl, ?_, h2, bl_only h.2.2.1 h3 (fun k hk hh => by omega) h.2.2.1.size, by have := h3.size; omega⟩
  rw [take_snoc hy]
  have e : takeF x (L.take k ++ [y]) = takeF x (L.take k) ++ takeY x y := by simp [takeF]
  rw [e]
  exact h1

set_option maxRecDepth 100000 in
set_option maxHeartbeats 1600000 in
theorem take_any {B p : Nat} {sv : Value} {L : List (Int × Int)} {w : World} (x : Int × Int) (hx : srightB x = true) (hr : SRep B w p sv L) (hn : Norm 0 L) (hl : L.length ≤ 2047) (hB : B ≤ w.heap.size) :
    Calls Try.prog 97 #[.pointer (some ⟨p, 0, none⟩), spv x] w fun e w' => e = .returned (.int .i64 0) ∧ (∃ sv', SRep B w' p sv' (takeF x L)) ∧ Only (fun k => k = p) w w' := by
  obtain ⟨a, b⟩ := x
  have hx' := rightB_iff.1 hx
  have hlen := takeF_len hx'.2.2 hn
  have HX := Lib.hid hx
  have HR := Lib.hid hr
  have HT := Lib.hid (fun C kb vb fb xb w1 => each_take (C := C) (kb := kb) (vb := vb) (fb := fb) (xb := xb) (w := w1) (x := (a, b)) hr (by omega))
  have HB2 := Lib.hid (fun sv' w2 (h1 : SRep B w2 p sv L) (h2 : w2.ownsRow B 75 2 sv' (takeF (a, b) L).length (spc (takeF (a, b) L))) => become_any h1 h2 (by omega))
  clear hx hr hx' hlen hn
  generalize takeF (a, b) L = T at *
  show Calls Try.prog 97 #[_, .agg #[.int .i64 a, .int .i64 b]] w _
  go_enter Try.func97, Try.ntmps97
  go_wp2_with fail
  refine (fault_ok p (a, b) _ HX.out).mono ?_
  rintro e w1 ⟨rfl, hb1⟩
  have hs1 := hb1.size
  simp at hs1
  have HB1 := Lib.hid (bl_step (bl_alloc (Below.refl _ _) _) hb1)
  have HXR := Lib.hid ((Row.made w 75 #[.int .i64 a, .int .i64 b]).later hb1)
  clear hb1
  go_wp2_with fail
  refine (keeper_any _ _).mono ?_
  rintro e _ ⟨rfl, rfl⟩
  have hf1 := made1 w1 (.cells #[.slice none 0 0] 72) 206 #[.pointer (some ⟨w1.heap.size, 0, none⟩)]
  have hkw : KeptW (w1.heap.size + 3) (w1.heap.size + 1) w1.heap.size (w1.heap.size + 2) [] (((w1.alloc (.cells #[.slice none 0 0] 72)).alloc (.cells #[.pointer (some ⟨w1.heap.size, 0, none⟩)] 206)).alloc (.cells #[.func (.func 187) #[] #[.pointer (some ⟨w1.heap.size + 1, 0, none⟩)]] 200)) :=
    ⟨by omega, made2 _ _ _ _ _, by omega, by omega, hf1.more _, _, ((Row.made _ _ _).more _).more _, World.ownsRow_nil _ _ _ _⟩
  have HKW := Lib.hid hkw
  have HXR2 := Lib.hid (((HXR.out.more (.cells #[.slice none 0 0] 72)).more (.cells #[.pointer (some ⟨w1.heap.size, 0, none⟩)] 206)).more (.cells #[.func (.func 187) #[] #[.pointer (some ⟨w1.heap.size + 1, 0, none⟩)]] 200))
  have HB3 := Lib.hid (bl_alloc (bl_alloc (bl_alloc HB1.out (.cells #[.slice none 0 0] 72)) (.cells #[.pointer (some ⟨w1.heap.size, 0, none⟩)] 206)) (.cells #[.func (.func 187) #[] #[.pointer (some ⟨w1.heap.size + 1, 0, none⟩)]] 200))
  clear hf1 hkw HXR
  go_wp2_with fail
  refine (HT.out _ _ _ _ _ _ HB3.out HKW.out HXR2.out (by omega) (by simp) (by omega) (by omega)).mono ?_
  rintro e w2 ⟨rfl, ⟨_, _, _, _, _, sv2, h1, h2⟩, hb2⟩
  have c1 := h1.read (i := 0) rfl
  have HOW := Lib.hid (h2.mono (by omega : B ≤ w1.heap.size + 3))
  have HB4 := Lib.hid hb2
  clear h1 h2 hb2
  obtain ⟨A2, cap2, rfl, _, _⟩ := sown_shape HOW.out
  go_wp2_with fail
  refine (HB2.out _ _ (HR.out.later HB4.out) HOW.out).mono ?_
  rintro e w3 ⟨rfl, h3, h4⟩
  have H3 := Lib.hid h3
  have H4 := Lib.hid h4
  clear h3 h4
  go_wp2
  go_ret
  exact ⟨rfl, ⟨_, H3.out⟩, (Only.of_below HB4.out).andThen H4.out (fun k _ hk => hk)⟩
end Go.Proofs.Ytdaipfmckonfpaa
