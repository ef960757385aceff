/-
  The closure of Add: spans ahead, spans behind, one span of what it meets.
-/
import Derived.Test.YtmaefeckkodllaaSpanClos
namespace Go.Proofs.Ytmaefeckkodllaa
open Go.RowKit

/-- the variables of Add: x at block xb; the spans ahead in ab, those behind in bb, whose memory lies from C on, each apart -/
def Adding (C xb ab bb : Nat) (s : (Int × Int) × List (Int × Int) × List (Int × Int)) (w : World) : Prop :=
  xb < C ∧ ab < C ∧ bb < C ∧ ab ≠ bb ∧ Row w xb 24 #[.int .i64 s.1.1, .int .i64 s.1.2] ∧
    ∃ sa sb, Row w ab 45 #[sa] ∧ Row w bb 45 #[sb] ∧ w.ownsRow C 24 2 sa s.2.1.length (spc s.2.1) ∧ w.ownsRow C 24 2 sb s.2.2.length (spc s.2.2) ∧ ∀ k, sa.ownBlock = some k → sb.ownBlock ≠ some k

theorem Adding.later {C xb ab bb : Nat} {s : (Int × Int) × List (Int × Int) × List (Int × Int)} {w w' : World} (h : Adding C xb ab bb s w) (hb : Below w.heap.size w w') : Adding C xb ab bb s w' := by
  obtain ⟨h1, h2, h3, h4, h5, sa, sb, h6, h7, h8, h9, h10⟩ := h
  exact ⟨h1, h2, h3, h4, h5.later hb, sa, sb, h6.later hb, h7.later hb, own_only (S := fun _ => False) h8 (.of_below hb) (fun _ _ h => h), own_only (S := fun _ => False) h9 (.of_below hb) (fun _ _ h => h), h10⟩

/-- what the closure of Add does -/
def AddDone (C xb ab bb : Nat) (s : (Int × Int) × List (Int × Int) × List (Int × Int)) (w : World) (e : Ending) (w' : World) : Prop :=
  e = .returned (.tuple #[]) ∧ Adding C xb ab bb s w' ∧ Only (fun k => k = xb ∨ k = ab ∨ k = bb ∨ C ≤ k) w w'

theorem imin_eq (c a : Int) : min c a = if c ≤ a then c else a := rfl
theorem imax_eq (c a : Int) : max c a = if c ≤ a then a else c := rfl

/-- appended ahead -/
theorem ahead_done {C xb ab bb g cap : Nat} {x : Int × Int} {A B : List (Int × Int)} {w W W2 : World} {sa : Value} {a b : Int} {o : Obj} (h : Adding C xb ab bb (x, A, B) W) (hra : Row W ab 45 #[sa]) (hb : Below w.heap.size w W)
    (hown : W2.ownsRow C 24 2 (.slice (some ⟨g, 0, none⟩) (A.length + 1) cap) (A.length + 1) (spc A ++ [.int .i64 a, .int .i64 b])) (hgrow : (W.alloc o).grownBy W2 sa.ownBlock) (hgg : sa.ownBlock = some g ∨ g = W.heap.size + 1) :
    AddDone C xb ab bb (x, A ++ [(a, b)], B) w (.returned (.tuple #[])) (W2.setCell ⟨ab, 0, none⟩ (.slice (some ⟨g, 0, none⟩) (A.length + 1) cap)) := by
  obtain ⟨h1, h2, h3, h4, h5, sa', sb, h6, h7, h8, h9, h10⟩ := h
  have e : sa' = sa := by
    unfold Row at h6 hra
    rw [h6] at hra
    injection hra with hr
    injection hr with hr _
    injection hr with hr
    injection hr with hr _
  subst e
  simp only at h5 h8 h9
  have hlt := fun k hk => h8.lt k hk
  have hltb := fun k hk => h9.lt k hk
  have n1 : sa'.ownBlock ≠ some xb := fun hk => by have := (hlt _ hk).1; omega
  have n2 : sa'.ownBlock ≠ some ab := fun hk => by have := (hlt _ hk).1; omega
  have n3 : sa'.ownBlock ≠ some bb := fun hk => by have := (hlt _ hk).1; omega
  have r1 := grown_row (h5.more o) hgrow n1
  have r2 := grown_row (h6.more o) hgrow n2
  have r3 := grown_row (h7.more o) hgrow n3
  have o1 : W2.ownsRow C 24 2 sb B.length (spc B) := (h9.alloc o).kept hgrow (by
    rcases hs : sb.ownBlock with _ | k
    · exact .inl rfl
    · exact .inr fun he => h10 k he.symm hs)
  have hset : Only (fun k => k = ab) W2 (W2.setCell ⟨ab, 0, none⟩ (.slice (some ⟨g, 0, none⟩) (A.length + 1) cap)) := (Only.refl (fun k => k = ab) _).set (p := ⟨ab, 0, none⟩) (.inl rfl) _
  refine ⟨rfl, ⟨h1, h2, h3, h4, r1.elsewhere (p := ⟨ab, 0, none⟩) (r1.apart r2 (by decide)) _, _, sb, r2.written 0 _, r3.elsewhere (p := ⟨ab, 0, none⟩) (fun e => h4 e.symm) _, ?_, own_only o1 hset (fun k hk he => by have := (hltb k hk).1; omega), fun k hk => ?_⟩, ?_⟩
  · simp only
    rw [spc_append, List.length_append]
    exact own_only hown hset (fun k hk he => by have := (hown.lt k hk).1; omega)
  · have e : g = k := by simpa [Value.ownBlock] using hk
    subst e
    rcases hgg with hgg | hgg
    · exact h10 _ hgg
    · intro hk'
      have := (hltb _ hk').2
      omega
  · have h11 : Only (fun k => k = xb ∨ k = ab ∨ k = bb ∨ C ≤ k) w W2 := ((Only.of_below hb).alloc o).grown hgrow (fun k hk => .inl (.inr (.inr (.inr (hlt k hk).1))))
    exact h11.set (p := ⟨ab, 0, none⟩) (.inl (.inr (.inl rfl))) _

/-- appended behind -/
theorem behind_done {C xb ab bb g cap : Nat} {x : Int × Int} {A B : List (Int × Int)} {w W W2 : World} {sb : Value} {a b : Int} {o : Obj} (h : Adding C xb ab bb (x, A, B) W) (hrb : Row W bb 45 #[sb]) (hb : Below w.heap.size w W)
    (hown : W2.ownsRow C 24 2 (.slice (some ⟨g, 0, none⟩) (B.length + 1) cap) (B.length + 1) (spc B ++ [.int .i64 a, .int .i64 b])) (hgrow : (W.alloc o).grownBy W2 sb.ownBlock) (hgg : sb.ownBlock = some g ∨ g = W.heap.size + 1) :
    AddDone C xb ab bb (x, A, B ++ [(a, b)]) w (.returned (.tuple #[])) (W2.setCell ⟨bb, 0, none⟩ (.slice (some ⟨g, 0, none⟩) (B.length + 1) cap)) := by
  obtain ⟨h1, h2, h3, h4, h5, sa, sb', h6, h7, h8, h9, h10⟩ := h
  have e : sb' = sb := by
    unfold Row at h7 hrb
    rw [h7] at hrb
    injection hrb with hr
    injection hr with hr _
    injection hr with hr
    injection hr with hr _
  subst e
  simp only at h5 h8 h9
  have hlt := fun k hk => h8.lt k hk
  have hltb := fun k hk => h9.lt k hk
  have n1 : sb'.ownBlock ≠ some xb := fun hk => by have := (hltb _ hk).1; omega
  have n2 : sb'.ownBlock ≠ some ab := fun hk => by have := (hltb _ hk).1; omega
  have n3 : sb'.ownBlock ≠ some bb := fun hk => by have := (hltb _ hk).1; omega
  have r1 := grown_row (h5.more o) hgrow n1
  have r2 := grown_row (h6.more o) hgrow n2
  have r3 := grown_row (h7.more o) hgrow n3
  have o1 : W2.ownsRow C 24 2 sa A.length (spc A) := (h8.alloc o).kept hgrow (by
    rcases hs : sa.ownBlock with _ | k
    · exact .inl rfl
    · exact .inr fun he => h10 k hs he.symm)
  have hset : Only (fun k => k = bb) W2 (W2.setCell ⟨bb, 0, none⟩ (.slice (some ⟨g, 0, none⟩) (B.length + 1) cap)) := (Only.refl (fun k => k = bb) _).set (p := ⟨bb, 0, none⟩) (.inl rfl) _
  refine ⟨rfl, ⟨h1, h2, h3, h4, r1.elsewhere (p := ⟨bb, 0, none⟩) (r1.apart r3 (by decide)) _, sa, _, r2.elsewhere (p := ⟨bb, 0, none⟩) h4 _, r3.written 0 _, own_only o1 hset (fun k hk he => by have := (hlt k hk).1; omega), ?_, fun k hk => ?_⟩, ?_⟩
  · simp only
    rw [spc_append, List.length_append]
    exact own_only hown hset (fun k hk he => by have := (hown.lt k hk).1; omega)
  · intro hk'
    have e : g = k := by simpa [Value.ownBlock] using hk'
    subst e
    rcases hgg with hgg | hgg
    · exact h10 _ hk hgg
    · have := (hlt _ hk).2
      omega
  · have h11 : Only (fun k => k = xb ∨ k = ab ∨ k = bb ∨ C ≤ k) w W2 := ((Only.of_below hb).alloc o).grown hgrow (fun k hk => .inl (.inr (.inr (.inr (hltb k hk).1))))
    exact h11.set (p := ⟨bb, 0, none⟩) (.inl (.inr (.inr (.inl rfl)))) _

/-- one span of both -/
theorem merge_done {C xb ab bb : Nat} {x : Int × Int} {A B : List (Int × Int)} {w : World} {o : Obj} {lo hi : Int} (h : Adding C xb ab bb (x, A, B) w) :
    AddDone C xb ab bb ((lo, hi), A, B) w (.returned (.tuple #[])) (((w.alloc o).setCell ⟨xb, 0, none⟩ (.int .i64 lo)).setCell ⟨xb, 1, none⟩ (.int .i64 hi)) := by
  have h' := h.later (bl_alloc (Below.refl _ _) o)
  obtain ⟨h1, h2, h3, h4, h5, sa, sb, h6, h7, h8, h9, h10⟩ := h'
  have hset : Only (fun k => k = xb) (w.alloc o) (((w.alloc o).setCell ⟨xb, 0, none⟩ (.int .i64 lo)).setCell ⟨xb, 1, none⟩ (.int .i64 hi)) := ((Only.refl (fun k => k = xb) _).set (p := ⟨xb, 0, none⟩) (.inl rfl) _).set (p := ⟨xb, 1, none⟩) (.inl rfl) _
  refine ⟨rfl, ⟨h1, h2, h3, h4, (h5.written 0 (.int .i64 lo)).written 1 (.int .i64 hi), sa, sb, h6.only hset (fun e => h5.apart h6 (by decide) e.symm), h7.only hset (fun e => h5.apart h7 (by decide) e.symm),
    own_only h8 hset (fun k hk e => by have := (h8.lt k hk).1; omega), own_only h9 hset (fun k hk e => by have := (h9.lt k hk).1; omega), h10⟩, ?_⟩
  exact ((Only.refl (fun k => k = xb ∨ k = ab ∨ k = bb ∨ C ≤ k) w).alloc o).andThen hset (fun k _ hk => .inl hk)

set_option maxHeartbeats 800000 in
theorem add1_any {C xb ab bb : Nat} {s : (Int × Int) × List (Int × Int) × List (Int × Int)} {w : World} (y : Int × Int) (h : Adding C xb ab bb s w) (hC : C ≤ w.heap.size) (hl : s.2.1.length ≤ 50000 ∧ s.2.2.length ≤ 50000) :
    Calls Try.prog 50 #[spv y, .pointer (some ⟨xb, 0, none⟩), .pointer (some ⟨ab, 0, none⟩), .pointer (some ⟨bb, 0, none⟩)] w (AddDone C xb ab bb (addStep s y) w) := by
  obtain ⟨⟨c, d⟩, A, B⟩ := s
  obtain ⟨a, b⟩ := y
  have h' := h.later (bl_alloc (Below.refl _ _) (.cells #[.int .i64 a, .int .i64 b] 24))
  have hy := Row.made w 24 #[.int .i64 a, .int .i64 b]
  obtain ⟨h1, h2, h3, h4, h5, sa, sb, h6, h7, h8, h9, h10⟩ := id h'
  obtain ⟨i0, hi, hi0, hi1, hi2⟩ := info24_parts
  have r0 := h5.read (i := 0) rfl
  have r1 := h5.read (i := 1) rfl
  have r2 := h6.read (i := 0) rfl
  have r3 := h7.read (i := 0) rfl
  have r4 := hy.read (i := 0) rfl
  have r5 := hy.read (i := 1) rfl
  have f0 := h5.free 0
  have f1 := h5.free 1
  have f2 := h6.free 0
  have f3 := h7.free 0
  have H6 := Lib.hid h6
  have H7 := Lib.hid h7
  have H8 := Lib.hid h8
  have H9 := Lib.hid h9
  have HA := Lib.hid h
  have HA' := Lib.hid h'
  have HBL := Lib.hid (bl_alloc (Below.refl w.heap.size w) (.cells #[.int .i64 a, .int .i64 b] 24))
  simp only at hl r0 r1
  have na : sa.ownBlock ≠ some ab := fun hk => by have := (h8.lt _ hk).1; omega
  have nb : sb.ownBlock ≠ some bb := fun hk => by have := (h9.lt _ hk).1; omega
  clear h h' h5 h6 h7 h8 h9 h10 hy
  show Calls Try.prog 50 #[.agg #[.int .i64 a, .int .i64 b], _, _, _] w _
  by_cases m1 : b < c
  · have HS := Lib.hid (show addStep ((c, d), A, B) (a, b) = ((c, d), A ++ [(a, b)], B) by unfold addStep; rw [if_pos m1])
    rw [HS.out]
    go_enter Try.func50, Try.ntmps50
    go_wp2_with (at_builtin; refine wpList_append_lies _ rfl _ _ _ (by rfl) C 24 i0 (.agg #[.int .i64 0, .int .i64 0]) 2 16 Try.underlying45 hi hi0 hi1 hi2 rfl (by omega) sa A.length _ (by rfl) (H8.out.alloc _) ⟨w.heap.size + 1, 0, none⟩ 1 1 [.int .i64 a, .int .i64 b] (by rfl) (by rfl) ?h1 (pair_one a b) (by omega) (by unfold maxLen; omega) (by omega) ?h6 (w.heap.size + 2) ?h7 ?_)
    case h6 => first | omega | (simp; omega)
    intro g cap w2 hown hgrow hgg hg2
    have hr2 := grown_row (H6.out.more (.cells #[.int .i64 a, .int .i64 b] 24)) hgrow na
    have c2 := hr2.read (i := 0) rfl
    have e2 := hr2.free 0
    have HF := Lib.hid (ahead_done (w := w) (cap := cap) HA'.out H6.out HBL.out hown hgrow (hgg.imp id (fun e => by simp; omega)))
    clear hown hgrow hgg
    go_wp2
    go_end0
    exact HF.out
  · by_cases m2 : d < a
    · have HS := Lib.hid (show addStep ((c, d), A, B) (a, b) = ((c, d), A, B ++ [(a, b)]) by unfold addStep; rw [if_neg m1, if_pos m2])
      rw [HS.out]
      go_enter Try.func50, Try.ntmps50
      go_wp2_with (at_builtin; refine wpList_append_lies _ rfl _ _ _ (by rfl) C 24 i0 (.agg #[.int .i64 0, .int .i64 0]) 2 16 Try.underlying45 hi hi0 hi1 hi2 rfl (by omega) sb B.length _ (by rfl) (H9.out.alloc _) ⟨w.heap.size + 1, 0, none⟩ 1 1 [.int .i64 a, .int .i64 b] (by rfl) (by rfl) ?k1 (pair_one a b) (by omega) (by unfold maxLen; omega) (by omega) ?k6 (w.heap.size + 2) ?k7 ?_)
      case k6 => first | omega | (simp; omega)
      intro g cap w2 hown hgrow hgg hg2
      have hr2 := grown_row (H7.out.more (.cells #[.int .i64 a, .int .i64 b] 24)) hgrow nb
      have c2 := hr2.read (i := 0) rfl
      have e2 := hr2.free 0
      have HF := Lib.hid (behind_done (w := w) (cap := cap) HA'.out H7.out HBL.out hown hgrow (hgg.imp id (fun e => by simp; omega)))
      clear hown hgrow hgg
      go_wp2
      go_end0
      exact HF.out
    · have HS := Lib.hid (show addStep ((c, d), A, B) (a, b) = ((min c a, max d b), A, B) by unfold addStep; rw [if_neg m1, if_neg m2])
      rw [HS.out]
      have HF := Lib.hid (fun lo hi => merge_done (o := .cells #[.int .i64 a, .int .i64 b] 24) (lo := lo) (hi := hi) HA.out)
      have HF := Lib.hid HF
      have cs : ∀ x, ((w.alloc (.cells #[.int .i64 a, .int .i64 b] 24)).setCell ⟨xb, 0, none⟩ x).frozen? ⟨xb, 1, none⟩ = false := fun x => by simpa using f1
      rcases Int.lt_or_le a c with m3 | m3
      all_goals rcases Int.lt_or_le d b with m4 | m4
      all_goals
        first | have hmin : min c a = a := by omega | have hmin : min c a = c := by omega
        first | have hmax : max d b = b := by omega | have hmax : max d b = d := by omega
        rw [hmin, hmax]
        clear hmin hmax
        go_enter Try.func50, Try.ntmps50
        go_wp2
        go_end0
        exact HF.out _ _
end Go.Proofs.Ytmaefeckkodllaa
