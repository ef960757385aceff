/-
  AmdBack: packets go there and back, in one way alone; what is read may be: the law walked. AmdBack: a packet that may be: the law walked; the whole law. AmdWrites: what the walk wants. A region that draws its order, walked by hand.
-/
import Derived.Test.YtdlgceddhlagnaaJAmdWrites27
import Derived.Deep.RegionHeld3
import Derived.Test.YtdlgceddhlagnaaJAmdWrites23
import Derived.Test.YtdlgceddhlagnaaJAmdWrites24
import Derived.Test.YtdlgceddhlagnaaJAmdWrites15
import Derived.Test.YtdlgceddhlagnaaJAmdWrites01
namespace Go.Proofs.Ytdlgceddhlagnaa
open Go.RowKit


theorem keep14 {W V : World} {g h : Nat} {a0 a1 a2 a3 a4 a5 a6 b0 b1 b2 b3 b4 b5 b6 : Value} (h1 : Row W g 31 #[a0, a1, a2, a3, a4, a5, a6]) (h2 : Row W h 31 #[b0, b1, b2, b3, b4, b5, b6]) (hb : Below W.heap.size W V) :
    V.cell? ⟨g, 0, none⟩ = some a0 ∧ V.cell? ⟨g, 1, none⟩ = some a1 ∧ V.cell? ⟨g, 2, none⟩ = some a2 ∧ V.cell? ⟨g, 3, none⟩ = some a3 ∧ V.cell? ⟨g, 4, none⟩ = some a4 ∧ V.cell? ⟨g, 5, none⟩ = some a5 ∧ V.cell? ⟨g, 6, none⟩ = some a6 ∧ V.cell? ⟨h, 0, none⟩ = some b0 ∧ V.cell? ⟨h, 1, none⟩ = some b1 ∧ V.cell? ⟨h, 2, none⟩ = some b2 ∧ V.cell? ⟨h, 3, none⟩ = some b3 ∧ V.cell? ⟨h, 4, none⟩ = some b4 ∧ V.cell? ⟨h, 5, none⟩ = some b5 ∧ V.cell? ⟨h, 6, none⟩ = some b6 :=
  ⟨(h1.later hb).read rfl, (h1.later hb).read rfl, (h1.later hb).read rfl, (h1.later hb).read rfl, (h1.later hb).read rfl, (h1.later hb).read rfl, (h1.later hb).read rfl, (h2.later hb).read rfl, (h2.later hb).read rfl, (h2.later hb).read rfl, (h2.later hb).read rfl, (h2.later hb).read rfl, (h2.later hb).read rfl, (h2.later hb).read rfl⟩
/-- behind the first part of the law: what is left to do -/
structure BackStA (w : World) (B : Option Addr) (nb cb : Nat) (bs : List Nat) (wd : Int) : Prop where
  len : bs.length = nb
  small : nb ≤ 4100
  room : nb ≤ cb
  cap : cb ≤ 9223372036854775807
  src : Src w B (bts bs)
  bytes : ∀ b ∈ bs, b < 256
section
variable {w : World} {B : Option Addr} {nb cb : Nat} {bs : List Nat} {wd : Int}
theorem BackStA.good (h : BackStA w B nb cb bs wd) {d : Nat} {qp qt ql : Bool} {q0 q1 q2 : Nat} {t : List (List Nat)} (hd : wd = d) (hr : amdRd bs d = (0, ⟨qp, qt, ql, q0, q1, q2⟩, t)) (W : World) (hb : Below w.heap.size w W) :
    Calls Try.prog 30 #[.slice B nb cb, .int .i64 wd] W fun e w' => ∃ (L : List RowB) (A : Option Addr) (c : Nat), t = texts L ∧ e = .returned (.tuple #[.agg #[.bool qp, .int .i64 q0, .int .i64 q1, .bool qt, .bool ql, .int .i64 q2, .slice A L.length c], .int .i64 0]) ∧ OwnR W.heap.size w' (.slice A L.length c) L ∧ L.length ≤ c ∧ c ≤ 9223372036854775807 ∧ Below W.heap.size W w' := by
  refine (aread_any wd nb cb W h.len (by have := h.small; omega) h.room h.cap (src_later h.src hb) h.bytes).mono ?_
  rintro e w' ⟨g | g, hbl⟩
  · obtain ⟨d', h', L, A, c, e1, e2, rfl, ho, h1, h2⟩ := g
    obtain rfl : d = d' := by omega
    rw [hr] at e2
    simp only [Prod.mk.injEq, true_and] at e2
    obtain ⟨rfl, e3⟩ := e2
    exact ⟨L, A, c, e3, rfl, ho, h1, h2, hbl⟩
  · have := g.1 d hd
    rw [hr] at this
    exact absurd rfl this
theorem BackStA.bad (h : BackStA w B nb cb bs wd) (hr : ∀ d : Nat, wd = d → (amdRd bs d).1 ≠ 0) (W : World) (hb : Below w.heap.size w W) :
    Calls Try.prog 30 #[.slice B nb cb, .int .i64 wd] W fun e w' => ∃ er : Int, er ≠ 0 ∧ e = .returned (.tuple #[.agg #[.bool false, .int .i64 0, .int .i64 0, .bool false, .bool false, .int .i64 0, .slice none 0 0], .int .i64 er]) ∧ Below W.heap.size W w' := by
  refine (aread_any wd nb cb W h.len (by have := h.small; omega) h.room h.cap (src_later h.src hb) h.bytes).mono ?_
  rintro e w' ⟨g | g, hbl⟩
  · obtain ⟨d', h', L, A, c, e1, e2, rfl, ho, h1, h2⟩ := g
    have := hr d' e1
    rw [e2] at this
    exact absurd rfl this
  · obtain ⟨_, er, h0, rfl⟩ := g
    exact ⟨er, h0, rfl, hbl⟩
end
theorem lens_smallA {W : World} {A : Option Addr} {L : List RowB} (h : RSrc W A L) : ∀ m ∈ lens L, m ≤ 9223372036854775807 := by
  intro m hm
  obtain ⟨k, hk⟩ := List.getElem?_of_mem hm
  simp only [lens, List.getElem?_map, Option.map_eq_some_iff] at hk
  obtain ⟨r, hr, rfl⟩ := hk
  obtain ⟨ad, _, hc⟩ := h (by have := (List.getElem?_eq_some_iff.1 hr).1; omega)
  have h9 := (hc k r hr).2
  have := h9.2.1
  have := h9.2.2.1
  omega
theorem write_backA {W : World} {A : Option Addr} {L : List RowB} {bs : List Nat} {d : Nat} {qp qt ql : Bool} {q0 q1 q2 : Nat} (c : Nat) (hb : ∀ b ∈ bs, b < 256) (hr : amdRd bs d = (0, ⟨qp, qt, ql, q0, q1, q2⟩, texts L)) (hs : RSrc W A L) (hc : L.length ≤ c) (hcm : c ≤ 9223372036854775807) :
    (Calls Try.prog 20 #[.agg #[.bool qp, .int .i64 q0, .int .i64 q1, .bool qt, .bool ql, .int .i64 q2, .slice A L.length c], .int .i64 d] W fun e w' => ∃ v', e = .returned (.tuple #[v', .int .i64 0]) ∧ OwnY W.heap.size w' v' bs ∧ Below W.heap.size W w') ∧
    (Calls Try.prog 22 #[.agg #[.bool qp, .int .i64 q0, .int .i64 q1, .bool qt, .bool ql, .int .i64 q2, .slice A L.length c], .int .i64 d] W fun e w' => e = .returned (.bool true) ∧ Below W.heap.size W w') := by
  obtain ⟨h1, h2⟩ := amd_write hb hr
  have hm := lens_smallA hs
  have h1 : amdF qt ql q0 q1 q2 (lens L) d ≠ 0 := h1
  have h2 : amdBytes qp qt ql q0 q1 q2 L d = bs := h2
  constructor
  · have h3 := awrite_ok qp qt ql q0 q1 q2 d L.length c W rfl hc hcm hs hm h1
    rw [h2] at h3
    exact h3
  · have h3 := aright_any (A := A) qp qt ql q0 q1 q2 d L.length c W rfl (by omega) hs hm
    rw [decide_eq_true (show 0 < amdF qt ql q0 q1 q2 (lens L) d by have := amdF_nonneg qt ql q0 q1 q2 (lens L) d; omega)] at h3
    exact h3
theorem write_noneA (W : World) (wd : Int) : Calls Try.prog 20 #[.agg #[.bool false, .int .i64 0, .int .i64 0, .bool false, .bool false, .int .i64 0, .slice none 0 0], .int .i64 wd] W fun e w' => ∃ er : Int, e = .returned (.tuple #[.slice none 0 0, .int .i64 er]) ∧ Below W.heap.size W w' := by
  refine (awrite_bad (A := none) (L := []) false false false 0 0 0 wd 0 0 W rfl (by omega) (fun h => absurd h (by simp)) (fun m hm => by cases hm) ?_).mono ?_
  · unfold amdF
    split
    · unfold fieldsF
      rw [if_neg (fun h => by have := h.1; simp [lens] at this)]
    · rfl
  · rintro e w' ⟨rfl, hb⟩
    exact ⟨_, rfl, hb⟩

set_option maxRecDepth 100000 in
set_option maxHeartbeats 6400000 in
theorem aback_bad {A B : Option Addr} {L : List RowB} {bs : List Nat} (poll part last : Bool) (fi sn off wd : Int) (n cap nb cb : Nat) (w : World) (hL : L.length = n) (hcap : n ≤ cap) (hcm : cap ≤ 9223372036854775807) (hs : RSrc w A L) (hm : ∀ m ∈ lens L, m ≤ 9223372036854775807) (hB : BackStA w B nb cb bs wd)
    (hw : amdF part last fi sn off (lens L) wd = 0) :
    Calls Try.prog 6 #[.agg #[.bool poll, .int .i64 fi, .int .i64 sn, .bool part, .bool last, .int .i64 off, .slice A n cap], .slice B nb cb, .int .i64 wd] w fun e w' => e = .returned (.bool true) ∧ Below w.heap.size w w' := by
  have HGR := Lib.hid (great_any n cap (w.alloc (.cells #[.bool poll, .int .i64 fi, .int .i64 sn, .bool part, .bool last, .int .i64 off, .slice A n cap] 31)) hL (by omega) (hs.later (bl_alloc (Below.refl _ _) _)) hm)
  have hb41 : ¬ (4100 : Int) < nb := by have := hB.small; omega
  have HWP := Lib.hid (fun W (hb : Below w.heap.size w W) => (show Calls Try.prog 20 #[.agg #[.bool poll, .int .i64 fi, .int .i64 sn, .bool part, .bool last, .int .i64 off, .slice A n cap], .int .i64 wd] W fun e w' => ∃ er : Int, er ≠ 0 ∧ e = .returned (.tuple #[.slice none 0 0, .int .i64 er]) ∧ Below W.heap.size W w' from (awrite_any poll part last fi sn off wd n cap W hL hcap hcm (hs.later hb) hm).mono fun e w' h => by
    obtain ⟨h | h, hbl⟩ := h
    · exact absurd hw h.1
    · obtain ⟨_, er, h0, rfl⟩ := h
      exact ⟨er, h0, rfl, hbl⟩))
  have HBS := Lib.hid hB
  clear hs hL hm hw hB
  by_cases hg : ∃ (d : Nat) (qp qt ql : Bool) (q0 q1 q2 : Nat) (t : List (List Nat)), wd = d ∧ amdRd bs d = (0, ⟨qp, qt, ql, q0, q1, q2⟩, t)
  · obtain ⟨d, qp, qt, ql, q0, q1, q2, t, rfl, hr⟩ := hg
    have HRB := Lib.hid (fun W hb => HBS.out.good rfl hr W hb)
    have HR := Lib.hid hr
    clear hr
    have HWB := Lib.hid (fun W A L c (ht : t = texts L) (hs : RSrc W A L) (hc : L.length ≤ c) (hcm : c ≤ 9223372036854775807) => (write_backA (W := W) c HBS.out.bytes (by rw [← ht]; exact HR.out) hs hc hcm).1)
    have HRT := Lib.hid (fun W A L c (ht : t = texts L) (hs : RSrc W A L) (hc : L.length ≤ c) (hcm : c ≤ 9223372036854775807) => (write_backA (W := W) c HBS.out.bytes (by rw [← ht]; exact HR.out) hs hc hcm).2)
    go_enter Try.func6, Try.ntmps6
    go_wp2_with (go_at_call 14; refine HGR.out.mono ?_; rintro e w1 ⟨⟨b, rfl, hbb⟩, rfl⟩; cases b)
    · clear hbb
      go_wp2_with (first
        | (go_at_call 20; (with_reducible refine (HWP.out _ (bl_alloc (Below.refl _ _) _)).mono ?_); rintro e w1 ⟨er, he0, rfl, hb1⟩; (have her : (er == 0) = false := by simpa using he0); (have HB1 := Lib.hid (bl_step (bl_alloc (Below.refl w.heap.size w) _) hb1); clear hb1 he0))
        | (go_at_call 30; (with_reducible refine (HRB.out w1 HB1.out).mono ?_); rintro e w7 ⟨L7, A7, c7, ht7, rfl, ho7, hl7, hc7, hb7⟩; (have HT7 := Lib.hid ht7; have HO7 := Lib.hid ho7; have HB7 := Lib.hid (HB1.out.trans (hb7.mono HB1.out.size)); have HW7 := Lib.hid (HWB.out (w7.alloc (.cells #[.bool qp, .int .i64 q0, .int .i64 q1, .bool qt, .bool ql, .int .i64 q2, .slice A7 L7.length c7] 31)) A7 L7 c7 ht7 ((ho7.later (bl_alloc (Below.refl _ _) _)).src) hl7 hc7); clear hb7 ho7 ht7))
        | (go_at_call 20; (with_reducible refine HW7.out.mono ?_); rintro e w8 ⟨y8, rfl, hy8, hb8⟩; obtain ⟨Ay, cy, hyv, _⟩ := hy8.form; rw [HBS.out.len] at hyv; subst hyv; (have HY8 := Lib.hid hy8; have HB78 := Lib.hid (bl_step (bl_alloc (Below.refl w7.heap.size w7) _) hb8); have HB8 := Lib.hid (HB7.out.trans (HB78.out.mono HB7.out.size)); have ROW8 := Lib.hid ((Row.made w7 31 #[.bool qp, .int .i64 q0, .int .i64 q1, .bool qt, .bool ql, .int .i64 q2, .slice A7 L7.length c7]).later hb8); clear hb8 hy8))
        | (go_at_call 17; (with_reducible refine (aalive_any _).mono ?_); rintro e w9 ⟨rfl, hb9⟩; (have HB9 := Lib.hid (HB8.out.trans (hb9.mono HB8.out.size)); have r9 := ROW8.out.later hb9; have r90 := r9.read (i := 0) rfl; have r91 := r9.read (i := 1) rfl; have r92 := r9.read (i := 2) rfl; have r93 := r9.read (i := 3) rfl; have r94 := r9.read (i := 4) rfl; have r95 := r9.read (i := 5) rfl; have r96 := r9.read (i := 6) rfl; have HY9 := Lib.hid (HY8.out.later hb9); have HRI := Lib.hid (HRT.out w9 A7 L7 c7 HT7.out (((HO7.out.later HB78.out).later hb9).src) hl7 hc7); clear hb9 r9))
        | (go_at_call 22; (with_reducible refine HRI.out.mono ?_); rintro e w10 ⟨rfl, hb10⟩; (have HB10 := Lib.hid (HB9.out.trans (hb10.mono HB9.out.size)); have cv1 := (HY9.out.later hb10).conv HBS.out.bytes; have cv2 := conv_src nb cb HBS.out.len (src_later HBS.out.src HB10.out) HBS.out.bytes; clear hb10)))
      go_ret
      exact ⟨rfl, HB10.out⟩
    · go_wp2_with (go_at_call 17; refine (aalive_any _).mono ?_; rintro e w2 ⟨rfl, hb2⟩)
      go_ret
      exact ⟨rfl, bl_step (bl_alloc (Below.refl _ _) _) hb2⟩
  · have hr : ∀ d : Nat, wd = d → (amdRd bs d).1 ≠ 0 := fun d hd h0 => hg ⟨d, (amdRd bs d).2.1.poll, (amdRd bs d).2.1.part, (amdRd bs d).2.1.last, (amdRd bs d).2.1.fi, (amdRd bs d).2.1.sn, (amdRd bs d).2.1.off, (amdRd bs d).2.2, hd, by rw [← h0]⟩
    have HRB := Lib.hid (fun W hb => HBS.out.bad hr W hb)
    clear hr hg
    go_enter Try.func6, Try.ntmps6
    go_wp2_with (go_at_call 14; refine HGR.out.mono ?_; rintro e w1 ⟨⟨b, rfl, hbb⟩, rfl⟩; cases b)
    · clear hbb
      go_wp2_with (first
        | (go_at_call 20; (with_reducible refine (HWP.out _ (bl_alloc (Below.refl _ _) _)).mono ?_); rintro e w1 ⟨er, he0, rfl, hb1⟩; (have her : (er == 0) = false := by simpa using he0); (have HB1 := Lib.hid (bl_step (bl_alloc (Below.refl w.heap.size w) _) hb1); clear hb1 he0))
        | (go_at_call 30; (with_reducible refine (HRB.out w1 HB1.out).mono ?_); rintro e w7 ⟨er7, he7, rfl, hb7⟩; (have her7 : (er7 != 0) = true := by simpa using he7); (have HB7 := Lib.hid (HB1.out.trans (hb7.mono HB1.out.size)); clear hb7 he7))
        | (go_at_call 20; (with_reducible refine (write_noneA _ wd).mono ?_); rintro e w8 ⟨er8, rfl, hb8⟩; (have HB8 := Lib.hid (HB7.out.trans ((bl_step (bl_alloc (Below.refl w7.heap.size w7) _) hb8).mono HB7.out.size)); clear hb8))
        | (go_at_call 17; (with_reducible refine (aalive_any _).mono ?_); rintro e w9 ⟨rfl, hb9⟩; (have HB9 := Lib.hid (HB8.out.trans (hb9.mono HB8.out.size)); clear hb9)))
      go_ret
      exact ⟨rfl, HB9.out⟩
    · go_wp2_with (go_at_call 17; refine (aalive_any _).mono ?_; rintro e w2 ⟨rfl, hb2⟩)
      go_ret
      exact ⟨rfl, bl_step (bl_alloc (Below.refl _ _) _) hb2⟩
end Go.Proofs.Ytdlgceddhlagnaa
namespace Go.Proofs.Ytdlgceddhlagnaa
open Go.RowKit


theorem amd_small {W : World} {A : Option Addr} {L : List RowB} (h : RSrc W A L) (poll part last : Bool) (fi sn off wd : Nat) : ∀ b ∈ amdBytes poll part last fi sn off L wd, b < 256 := by
  intro b hb
  unfold amdBytes at hb
  rw [List.mem_append, List.mem_append] at hb
  rcases hb with (hb | hb) | hb
  · exact pack_small _ b hb
  · exact tail_small _ _ b hb
  · unfold flat texts at hb
    rw [List.mem_flatten] at hb
    obtain ⟨l, hl, hb⟩ := hb
    rw [List.mem_map] at hl
    obtain ⟨r, hr, rfl⟩ := hl
    obtain ⟨k, hk⟩ := List.getElem?_of_mem hr
    obtain ⟨ad, _, hc⟩ := h (by have := (List.getElem?_eq_some_iff.1 hk).1; omega)
    exact (hc k r hk).2.2.2.2 b hb

theorem rd_backA {W w : World} {A A1 : Option Addr} {n1 c1 BB a b' off d : Nat} {poll part last : Bool} {L : List RowB} (ho : OwnY BB W (.slice A1 n1 c1) (amdBytes poll part last a b' off L d)) (hn1 : (amdBytes poll part last a b' off L d).length = n1) (hs : RSrc w A L) (hw : amdF part last a b' off (lens L) d ≠ 0) :
    Calls Try.prog 30 #[.slice A1 n1 c1, .int .i64 d] W fun e w' => ∃ (M : List RowB) (A : Option Addr) (c : Nat), texts L = texts M ∧ e = .returned (.tuple #[.agg #[.bool poll, .int .i64 a, .int .i64 b', .bool part, .bool last, .int .i64 off, .slice A M.length c], .int .i64 0]) ∧ OwnR W.heap.size w' (.slice A M.length c) M ∧ M.length ≤ c ∧ c ≤ 9223372036854775807 ∧ Below W.heap.size W w' := by
  obtain ⟨A', c', e, g1, g2⟩ := ho.form
  injection e with e1 e2 e3
  subst e1
  subst e3
  unfold maxLen at g2
  have hlen := amd_len (poll := poll) hw
  have hbig := amdF_big part last a b' off (lens L) d
  have hst : BackStA W A1 n1 c1 (amdBytes poll part last a b' off L d) d := ⟨hn1, by omega, by omega, by omega, ho.src, amd_small hs poll part last a b' off d⟩
  exact hst.good rfl (amd_back hw) W (Below.refl _ _)

set_option maxRecDepth 100000 in
set_option maxHeartbeats 6400000 in
theorem aback_ok {A B : Option Addr} {L : List RowB} {bs : List Nat} (poll part last : Bool) (a b' off d n cap nb cb : Nat) (w : World) (hL : L.length = n) (hcap : n ≤ cap) (hcm : cap ≤ 9223372036854775807) (hs : RSrc w A L) (hm : ∀ m ∈ lens L, m ≤ 9223372036854775807) (hB : BackStA w B nb cb bs d)
    (hw : amdF part last a b' off (lens L) d ≠ 0) :
    Calls Try.prog 6 #[.agg #[.bool poll, .int .i64 a, .int .i64 b', .bool part, .bool last, .int .i64 off, .slice A n cap], .slice B nb cb, .int .i64 d] w fun e w' => e = .returned (.bool true) ∧ Below w.heap.size w w' := by
  have hn9 : n ≤ 9223372036854775807 := by omega
  have HGR := Lib.hid (great_any n cap (w.alloc (.cells #[.bool poll, .int .i64 a, .int .i64 b', .bool part, .bool last, .int .i64 off, .slice A n cap] 31)) hL hn9 (hs.later (bl_alloc (Below.refl _ _) _)) hm)
  have hb41 : ¬ (4100 : Int) < nb := by have := hB.small; omega
  have hlen := amd_len (poll := poll) hw
  have hbig := amdF_big part last a b' off (lens L) d
  obtain ⟨n1, hn1⟩ : ∃ n1, (amdBytes poll part last a b' off L d).length = n1 := ⟨_, rfl⟩
  have HWP := Lib.hid (fun W (hb : Below w.heap.size w W) => (show Calls Try.prog 20 #[.agg #[.bool poll, .int .i64 a, .int .i64 b', .bool part, .bool last, .int .i64 off, .slice A n cap], .int .i64 d] W fun e w' => ∃ (A1 : Option Addr) (c1 : Nat), e = .returned (.tuple #[.slice A1 n1 c1, .int .i64 0]) ∧ OwnY W.heap.size w' (.slice A1 n1 c1) (amdBytes poll part last a b' off L d) ∧ Below W.heap.size W w' from (awrite_ok poll part last a b' off d n cap W hL hcap hcm (hs.later hb) hm hw).mono fun e w' h => by
    obtain ⟨v, rfl, ho, hbl⟩ := h
    obtain ⟨A1, c1, rfl, _⟩ := ho.form
    rw [hn1] at ho ⊢
    exact ⟨A1, c1, rfl, ho, hbl⟩))
  have HRX := Lib.hid (fun W A1 c1 BB (ho : OwnY BB W (.slice A1 n1 c1) (amdBytes poll part last a b' off L d)) => rd_backA ho hn1 hs hw)
  have HSZ := Lib.hid (fun W (hb : Below w.heap.size w W) => (show Calls Try.prog 21 #[.agg #[.bool poll, .int .i64 a, .int .i64 b', .bool part, .bool last, .int .i64 off, .slice A n cap], .int .i64 d] W fun e w' => e = .returned (.int .i64 (n1 : Int)) ∧ Below W.heap.size W w' from by
    have h1 := asize_any (A := A) poll part last a b' off d n cap W hL hn9 (hs.later hb) hm
    rw [← hlen, hn1] at h1
    exact h1))
  have hnn : ((n1 : Int) != (n1 : Int)) = false := by simp
  have HBS := Lib.hid hB
  have HS := Lib.hid hs
  have HL := Lib.hid hL
  clear hs hL hm hw hB hlen hbig hn1
  by_cases hg : ∃ (qp qt ql : Bool) (q0 q1 q2 : Nat) (t : List (List Nat)), amdRd bs d = (0, ⟨qp, qt, ql, q0, q1, q2⟩, t)
  · obtain ⟨qp, qt, ql, q0, q1, q2, t, hr⟩ := hg
    have HRB := Lib.hid (fun W hb => HBS.out.good rfl hr W hb)
    have HR := Lib.hid hr
    clear hr
    have HWB := Lib.hid (fun W A L c (ht : t = texts L) (hs : RSrc W A L) (hc : L.length ≤ c) (hcm : c ≤ 9223372036854775807) => (write_backA (W := W) c HBS.out.bytes (by rw [← ht]; exact HR.out) hs hc hcm).1)
    have HRT := Lib.hid (fun W A L c (ht : t = texts L) (hs : RSrc W A L) (hc : L.length ≤ c) (hcm : c ≤ 9223372036854775807) => (write_backA (W := W) c HBS.out.bytes (by rw [← ht]; exact HR.out) hs hc hcm).2)
    go_enter Try.func6, Try.ntmps6
    go_wp2_with (go_at_call 14; refine HGR.out.mono ?_; rintro e w1 ⟨⟨b, rfl, hbb⟩, rfl⟩; cases b)
    · clear hbb
      go_wp2_with (first
        | (go_at_call 20; (with_reducible refine (HWP.out _ (bl_alloc (Below.refl _ _) _)).mono ?_); rintro e w1 ⟨A1, c1, rfl, ho1, hb1⟩; (have HB1 := Lib.hid (bl_step (bl_alloc (Below.refl w.heap.size w) _) hb1); have ROW1 := Lib.hid ((Row.made w 31 #[.bool poll, .int .i64 a, .int .i64 b', .bool part, .bool last, .int .i64 off, .slice A n cap]).later hb1); have HRX1 := Lib.hid (HRX.out w1 A1 c1 _ ho1); clear hb1 ho1))
        | (go_at_call 30; (with_reducible refine HRX1.out.mono ?_); rintro e w2 ⟨L2, A2, c2, ht2, rfl, ho2, hl2, hc2, hb2⟩; (have HB2 := Lib.hid (HB1.out.trans (hb2.mono HB1.out.size)); have ROW2 := Lib.hid ((ROW1.out.later hb2).more (.cells #[.bool poll, .int .i64 a, .int .i64 b', .bool part, .bool last, .int .i64 off, .slice A2 L2.length c2] 31)); have HO2 := Lib.hid ho2; have HT2 := Lib.hid ht2; clear hb2 ho2 ht2)))
      have ROWQ := Lib.hid (Row.made w2 31 #[.bool poll, .int .i64 a, .int .i64 b', .bool part, .bool last, .int .i64 off, .slice A2 L2.length c2])
      have HBQ := Lib.hid (bl_alloc HB2.out (.cells #[.bool poll, .int .i64 a, .int .i64 b', .bool part, .bool last, .int .i64 off, .slice A2 L2.length c2] 31))
      have HOQ := Lib.hid (HO2.out.later (bl_alloc (Below.refl _ _) (.cells #[.bool poll, .int .i64 a, .int .i64 b', .bool part, .bool last, .int .i64 off, .slice A2 L2.length c2] 31)))
      generalize hwq : w2.alloc (.cells #[.bool poll, .int .i64 a, .int .i64 b', .bool part, .bool last, .int .i64 off, .slice A2 L2.length c2] 31) = wq at *
      clear hwq
      have kq := keep14 ROW2.out ROWQ.out (bl_drew (Below.refl wq.heap.size wq))
      have HASP := Lib.hid (fun W => aas_any poll part last a b' off A n cap W)
      have HASQ := Lib.hid (fun W => aas_any poll part last a b' off A2 L2.length c2 W)
      have HSM := Lib.hid (fun W (hb : Below wq.heap.size wq W) => (show Calls Try.prog 24 #[.agg #[.bool poll, .int .i64 a, .int .i64 b', .bool part, .bool last, .int .i64 off, .slice A n cap], .agg #[.bool poll, .int .i64 a, .int .i64 b', .bool part, .bool last, .int .i64 off, .slice A2 L2.length c2]] W fun e w' => e = .returned (.bool true) ∧ Below W.heap.size W w' from by
        have h1 := rasame_any (A := A) (B := A2) poll part last a b' off poll part last a b' off n L2.length cap c2 W HL.out rfl hn9 (HS.out.later (HBQ.out.trans (hb.mono HBQ.out.size))) ((HOQ.out.later hb).src)
        rw [← HT2.out, eqA_self] at h1
        exact h1))
      go_wp2_with fail
      go_region_held3 (fun w' => w'.cell? ⟨w.heap.size, 0, none⟩ = some (.bool poll) ∧ w'.cell? ⟨w.heap.size, 1, none⟩ = some (.int .i64 a) ∧ w'.cell? ⟨w.heap.size, 2, none⟩ = some (.int .i64 b') ∧ w'.cell? ⟨w.heap.size, 3, none⟩ = some (.bool part) ∧ w'.cell? ⟨w.heap.size, 4, none⟩ = some (.bool last) ∧ w'.cell? ⟨w.heap.size, 5, none⟩ = some (.int .i64 off) ∧ w'.cell? ⟨w.heap.size, 6, none⟩ = some (.slice A n cap) ∧ w'.cell? ⟨w2.heap.size, 0, none⟩ = some (.bool poll) ∧ w'.cell? ⟨w2.heap.size, 1, none⟩ = some (.int .i64 a) ∧ w'.cell? ⟨w2.heap.size, 2, none⟩ = some (.int .i64 b') ∧ w'.cell? ⟨w2.heap.size, 3, none⟩ = some (.bool part) ∧ w'.cell? ⟨w2.heap.size, 4, none⟩ = some (.bool last) ∧ w'.cell? ⟨w2.heap.size, 5, none⟩ = some (.int .i64 off) ∧ w'.cell? ⟨w2.heap.size, 6, none⟩ = some (.slice A2 L2.length c2)) (first | assumption | go_keep) (first
        | (go_at_call 19; (with_reducible refine (HASP.out _).mono ?_); rintro e v1 ⟨rfl, hv1⟩; have h01 := bl_step (bl_drew (Below.refl wq.heap.size wq)) hv1; have k1 := keep14 ROW2.out ROWQ.out h01; have H01 := Lib.hid h01)
        | (go_at_call 19; (with_reducible refine (HASQ.out _).mono ?_); rintro e v2 ⟨rfl, hv2⟩; have h02 := bl_step H01.out hv2; have k2 := keep14 ROW2.out ROWQ.out h02; have H02 := Lib.hid h02)
        | (go_at_call 24; (with_reducible refine (HSM.out _ H02.out).mono ?_); rintro e v3 ⟨rfl, hv3⟩; have h03 := bl_step H02.out hv3; have k3 := keep14 ROW2.out ROWQ.out h03; have H03 := Lib.hid h03; have HZ3 := Lib.hid (HSZ.out v3 (HBQ.out.trans (h03.mono HBQ.out.size))))
        | (go_at_call 21; (with_reducible refine HZ3.out.mono ?_); rintro e v4 ⟨rfl, hv4⟩; have h04 := bl_step H03.out hv4; have k4 := keep14 ROW2.out ROWQ.out h04; have HV4 := Lib.hid (HBQ.out.trans (h04.mono HBQ.out.size))))
      go_wp2_with (first
        | (go_at_call 30; (with_reducible refine (HRB.out v4 HV4.out).mono ?_); rintro e w7 ⟨L7, A7, c7, ht7, rfl, ho7, hl7, hc7, hb7⟩; (have HT7 := Lib.hid ht7; have HO7 := Lib.hid ho7; have HB7 := Lib.hid (HV4.out.trans (hb7.mono HV4.out.size)); have HW7 := Lib.hid (HWB.out (w7.alloc (.cells #[.bool qp, .int .i64 q0, .int .i64 q1, .bool qt, .bool ql, .int .i64 q2, .slice A7 L7.length c7] 31)) A7 L7 c7 ht7 ((ho7.later (bl_alloc (Below.refl _ _) _)).src) hl7 hc7); clear hb7 ho7 ht7))
        | (go_at_call 20; (with_reducible refine HW7.out.mono ?_); rintro e w8 ⟨y8, rfl, hy8, hb8⟩; obtain ⟨Ay, cy, hyv, _⟩ := hy8.form; rw [HBS.out.len] at hyv; subst hyv; (have HY8 := Lib.hid hy8; have HB78 := Lib.hid (bl_step (bl_alloc (Below.refl w7.heap.size w7) _) hb8); have HB8 := Lib.hid (HB7.out.trans (HB78.out.mono HB7.out.size)); have ROW8 := Lib.hid ((Row.made w7 31 #[.bool qp, .int .i64 q0, .int .i64 q1, .bool qt, .bool ql, .int .i64 q2, .slice A7 L7.length c7]).later hb8); clear hb8 hy8))
        | (go_at_call 17; (with_reducible refine (aalive_any _).mono ?_); rintro e w9 ⟨rfl, hb9⟩; (have HB9 := Lib.hid (HB8.out.trans (hb9.mono HB8.out.size)); have r9 := ROW8.out.later hb9; have r90 := r9.read (i := 0) rfl; have r91 := r9.read (i := 1) rfl; have r92 := r9.read (i := 2) rfl; have r93 := r9.read (i := 3) rfl; have r94 := r9.read (i := 4) rfl; have r95 := r9.read (i := 5) rfl; have r96 := r9.read (i := 6) rfl; have HY9 := Lib.hid (HY8.out.later hb9); have HRI := Lib.hid (HRT.out w9 A7 L7 c7 HT7.out (((HO7.out.later HB78.out).later hb9).src) hl7 hc7); clear hb9 r9))
        | (go_at_call 22; (with_reducible refine HRI.out.mono ?_); rintro e w10 ⟨rfl, hb10⟩; (have HB10 := Lib.hid (HB9.out.trans (hb10.mono HB9.out.size)); have cv1 := (HY9.out.later hb10).conv HBS.out.bytes; have cv2 := conv_src nb cb HBS.out.len (src_later HBS.out.src HB10.out) HBS.out.bytes; clear hb10)))
      go_ret
      exact ⟨rfl, HB10.out⟩
    · go_wp2_with (go_at_call 17; refine (aalive_any _).mono ?_; rintro e w2 ⟨rfl, hb2⟩)
      go_ret
      exact ⟨rfl, bl_step (bl_alloc (Below.refl _ _) _) hb2⟩
  · have hr : ∀ d' : Nat, (d : Int) = d' → (amdRd bs d').1 ≠ 0 := fun d' hd h0 => hg ⟨(amdRd bs d).2.1.poll, (amdRd bs d).2.1.part, (amdRd bs d).2.1.last, (amdRd bs d).2.1.fi, (amdRd bs d).2.1.sn, (amdRd bs d).2.1.off, (amdRd bs d).2.2, by
      obtain rfl : d = d' := by omega
      rw [← h0]⟩
    have HRB := Lib.hid (fun W hb => HBS.out.bad hr W hb)
    clear hr hg
    go_enter Try.func6, Try.ntmps6
    go_wp2_with (go_at_call 14; refine HGR.out.mono ?_; rintro e w1 ⟨⟨b, rfl, hbb⟩, rfl⟩; cases b)
    · clear hbb
      go_wp2_with (first
        | (go_at_call 20; (with_reducible refine (HWP.out _ (bl_alloc (Below.refl _ _) _)).mono ?_); rintro e w1 ⟨A1, c1, rfl, ho1, hb1⟩; (have HB1 := Lib.hid (bl_step (bl_alloc (Below.refl w.heap.size w) _) hb1); have ROW1 := Lib.hid ((Row.made w 31 #[.bool poll, .int .i64 a, .int .i64 b', .bool part, .bool last, .int .i64 off, .slice A n cap]).later hb1); have HRX1 := Lib.hid (HRX.out w1 A1 c1 _ ho1); clear hb1 ho1))
        | (go_at_call 30; (with_reducible refine HRX1.out.mono ?_); rintro e w2 ⟨L2, A2, c2, ht2, rfl, ho2, hl2, hc2, hb2⟩; (have HB2 := Lib.hid (HB1.out.trans (hb2.mono HB1.out.size)); have ROW2 := Lib.hid ((ROW1.out.later hb2).more (.cells #[.bool poll, .int .i64 a, .int .i64 b', .bool part, .bool last, .int .i64 off, .slice A2 L2.length c2] 31)); have HO2 := Lib.hid ho2; have HT2 := Lib.hid ht2; clear hb2 ho2 ht2)))
      have ROWQ := Lib.hid (Row.made w2 31 #[.bool poll, .int .i64 a, .int .i64 b', .bool part, .bool last, .int .i64 off, .slice A2 L2.length c2])
      have HBQ := Lib.hid (bl_alloc HB2.out (.cells #[.bool poll, .int .i64 a, .int .i64 b', .bool part, .bool last, .int .i64 off, .slice A2 L2.length c2] 31))
      have HOQ := Lib.hid (HO2.out.later (bl_alloc (Below.refl _ _) (.cells #[.bool poll, .int .i64 a, .int .i64 b', .bool part, .bool last, .int .i64 off, .slice A2 L2.length c2] 31)))
      generalize hwq : w2.alloc (.cells #[.bool poll, .int .i64 a, .int .i64 b', .bool part, .bool last, .int .i64 off, .slice A2 L2.length c2] 31) = wq at *
      clear hwq
      have kq := keep14 ROW2.out ROWQ.out (bl_drew (Below.refl wq.heap.size wq))
      have HASP := Lib.hid (fun W => aas_any poll part last a b' off A n cap W)
      have HASQ := Lib.hid (fun W => aas_any poll part last a b' off A2 L2.length c2 W)
      have HSM := Lib.hid (fun W (hb : Below wq.heap.size wq W) => (show Calls Try.prog 24 #[.agg #[.bool poll, .int .i64 a, .int .i64 b', .bool part, .bool last, .int .i64 off, .slice A n cap], .agg #[.bool poll, .int .i64 a, .int .i64 b', .bool part, .bool last, .int .i64 off, .slice A2 L2.length c2]] W fun e w' => e = .returned (.bool true) ∧ Below W.heap.size W w' from by
        have h1 := rasame_any (A := A) (B := A2) poll part last a b' off poll part last a b' off n L2.length cap c2 W HL.out rfl hn9 (HS.out.later (HBQ.out.trans (hb.mono HBQ.out.size))) ((HOQ.out.later hb).src)
        rw [← HT2.out, eqA_self] at h1
        exact h1))
      go_wp2_with fail
      go_region_held3 (fun w' => w'.cell? ⟨w.heap.size, 0, none⟩ = some (.bool poll) ∧ w'.cell? ⟨w.heap.size, 1, none⟩ = some (.int .i64 a) ∧ w'.cell? ⟨w.heap.size, 2, none⟩ = some (.int .i64 b') ∧ w'.cell? ⟨w.heap.size, 3, none⟩ = some (.bool part) ∧ w'.cell? ⟨w.heap.size, 4, none⟩ = some (.bool last) ∧ w'.cell? ⟨w.heap.size, 5, none⟩ = some (.int .i64 off) ∧ w'.cell? ⟨w.heap.size, 6, none⟩ = some (.slice A n cap) ∧ w'.cell? ⟨w2.heap.size, 0, none⟩ = some (.bool poll) ∧ w'.cell? ⟨w2.heap.size, 1, none⟩ = some (.int .i64 a) ∧ w'.cell? ⟨w2.heap.size, 2, none⟩ = some (.int .i64 b') ∧ w'.cell? ⟨w2.heap.size, 3, none⟩ = some (.bool part) ∧ w'.cell? ⟨w2.heap.size, 4, none⟩ = some (.bool last) ∧ w'.cell? ⟨w2.heap.size, 5, none⟩ = some (.int .i64 off) ∧ w'.cell? ⟨w2.heap.size, 6, none⟩ = some (.slice A2 L2.length c2)) (first | assumption | go_keep) (first
        | (go_at_call 19; (with_reducible refine (HASP.out _).mono ?_); rintro e v1 ⟨rfl, hv1⟩; have h01 := bl_step (bl_drew (Below.refl wq.heap.size wq)) hv1; have k1 := keep14 ROW2.out ROWQ.out h01; have H01 := Lib.hid h01)
        | (go_at_call 19; (with_reducible refine (HASQ.out _).mono ?_); rintro e v2 ⟨rfl, hv2⟩; have h02 := bl_step H01.out hv2; have k2 := keep14 ROW2.out ROWQ.out h02; have H02 := Lib.hid h02)
        | (go_at_call 24; (with_reducible refine (HSM.out _ H02.out).mono ?_); rintro e v3 ⟨rfl, hv3⟩; have h03 := bl_step H02.out hv3; have k3 := keep14 ROW2.out ROWQ.out h03; have H03 := Lib.hid h03; have HZ3 := Lib.hid (HSZ.out v3 (HBQ.out.trans (h03.mono HBQ.out.size))))
        | (go_at_call 21; (with_reducible refine HZ3.out.mono ?_); rintro e v4 ⟨rfl, hv4⟩; have h04 := bl_step H03.out hv4; have k4 := keep14 ROW2.out ROWQ.out h04; have HV4 := Lib.hid (HBQ.out.trans (h04.mono HBQ.out.size))))
      go_wp2_with (first
        | (go_at_call 30; (with_reducible refine (HRB.out v4 HV4.out).mono ?_); rintro e w7 ⟨er7, he7, rfl, hb7⟩; (have her7 : (er7 != 0) = true := by simpa using he7); (have HB7 := Lib.hid (HV4.out.trans (hb7.mono HV4.out.size)); clear hb7 he7))
        | (go_at_call 20; (with_reducible refine (write_noneA _ d).mono ?_); rintro e w8 ⟨er8, rfl, hb8⟩; (have HB8 := Lib.hid (HB7.out.trans ((bl_step (bl_alloc (Below.refl w7.heap.size w7) _) hb8).mono HB7.out.size)); clear hb8))
        | (go_at_call 17; (with_reducible refine (aalive_any _).mono ?_); rintro e w9 ⟨rfl, hb9⟩; (have HB9 := Lib.hid (HB8.out.trans (hb9.mono HB8.out.size)); clear hb9)))
      go_ret
      exact ⟨rfl, HB9.out⟩
    · go_wp2_with (go_at_call 17; refine (aalive_any _).mono ?_; rintro e w2 ⟨rfl, hb2⟩)
      go_ret
      exact ⟨rfl, bl_step (bl_alloc (Below.refl _ _) _) hb2⟩
end Go.Proofs.Ytdlgceddhlagnaa
namespace Go.Proofs.Ytdlgceddhlagnaa
open Go.RowKit

theorem rawrite_ok {A : Option Addr} {L : List RowB} (poll part last : Bool) (fi sn off wd n cap : Nat) (w : World) (hL : L.length = n) (hs : RSrc w A L) (h : amdF part last fi sn off (lens L) wd ≠ 0) :
    Calls Try.prog 29 #[.agg #[.bool poll, .int .i64 fi, .int .i64 sn, .bool part, .bool last, .int .i64 off, .slice A n cap], .int .i64 wd] w fun e w' => ∃ v', e = .returned v' ∧ OwnY w.heap.size w' v' (amdBytes poll part last fi sn off L wd) ∧ Below w.heap.size w w' := by
  obtain ⟨hw, _, hfi, hsn, hpl, hl1, hl2, hok, hsum⟩ := amdF_pos h
  rw [length_lens, hL] at hl1 hl2
  have hwd : wd = 10 ∨ wd = 16 := by omega
  have hsn2 := okn_pow hwd hsn
  have hof := placed_off hwd hpl
  have hsu : (lens L).sum ≤ 9000 := by have := amdF_big part last fi sn off (lens L) wd; have h9 := sizeF_nonneg (((lens L).length : Int) - 1) (lwA wd); have h8 := headA_nonneg part wd; omega
  rcases hwd with rfl | rfl <;> cases part
  · exact rwr_10f poll last fi sn off n cap w hL hs hl1 hl2 hok hsu (by omega) hsn2 hof
  · exact rwr_10t poll last fi sn off n cap w hL hs hl1 hl2 hok hsu (by omega) hsn2 hof
  · exact rwr_16f poll last fi sn off n cap w hL hs hl1 hl2 hok hsu (by omega) hsn2 hof
  · exact rwr_16t poll last fi sn off n cap w hL hs hl1 hl2 hok hsu (by omega) hsn2 hof
def WAnsA (poll part last : Bool) (fi sn off : Int) (L : List RowB) (wd F : Int) (W : World) (e : Ending) (w' : World) : Prop := ∃ (Aw : Option Addr) (nw cw : Nat) (er : Int), e = .returned (.tuple #[.slice Aw nw cw, .int .i64 er]) ∧ Hid (F = 0 → nw = 0 ∧ er = if wd = 10 ∨ wd = 16 then 3 else 9) ∧ Hid (F ≠ 0 → er = 0 ∧ (nw : Int) = F ∧ OwnY W.heap.size w' (.slice Aw nw cw) (amdBytes poll part last fi.toNat sn.toNat off.toNat L wd.toNat)) ∧ Below W.heap.size W w'
theorem awrite_un {A : Option Addr} {L : List RowB} (poll part last : Bool) (fi sn off wd : Int) (n cap : Nat) (w : World) (hL : L.length = n) (hcap : n ≤ cap) (hcm : cap ≤ 9223372036854775807) (hs : RSrc w A L) (hm : ∀ m ∈ lens L, m ≤ 9223372036854775807) :
    Calls Try.prog 20 #[.agg #[.bool poll, .int .i64 fi, .int .i64 sn, .bool part, .bool last, .int .i64 off, .slice A n cap], .int .i64 wd] w (WAnsA poll part last fi sn off L wd (amdF part last fi sn off (lens L) wd) w) := by
  by_cases hw : amdF part last fi sn off (lens L) wd = 0
  · refine (awrite_bad poll part last fi sn off wd n cap w hL (by omega) hs hm hw).mono ?_
    rintro e w' ⟨rfl, hb⟩
    exact ⟨none, 0, 0, _, rfl, Lib.hid fun _ => ⟨rfl, rfl⟩, Lib.hid fun h => absurd hw h, hb⟩
  · obtain ⟨a, b, c, d, rfl, rfl, rfl, rfl⟩ := nat_of hw
    refine (awrite_ok poll part last a b c d n cap w hL hcap hcm hs hm hw).mono ?_
    rintro e w' ⟨v, rfl, ho, hb⟩
    obtain ⟨A1, c1, rfl, _⟩ := ho.form
    exact ⟨A1, _, c1, 0, rfl, Lib.hid fun h => absurd h hw, Lib.hid fun _ => ⟨rfl, amd_len hw, ho⟩, hb⟩
theorem rawrite_un {A : Option Addr} {L : List RowB} (poll part last : Bool) (fi sn off wd : Int) (n cap : Nat) (w : World) (hL : L.length = n) (hs : RSrc w A L) (hw : amdF part last fi sn off (lens L) wd ≠ 0) :
    Calls Try.prog 29 #[.agg #[.bool poll, .int .i64 fi, .int .i64 sn, .bool part, .bool last, .int .i64 off, .slice A n cap], .int .i64 wd] w fun e w' => ∃ v', e = .returned v' ∧ OwnY w.heap.size w' v' (amdBytes poll part last fi.toNat sn.toNat off.toNat L wd.toNat) ∧ Below w.heap.size w w' := by
  obtain ⟨a, b, c, d, rfl, rfl, rfl, rfl⟩ := nat_of hw
  exact rawrite_ok poll part last a b c d n cap w hL hs hw
theorem flat_small {W : World} {A : Option Addr} {L : List RowB} (h : RSrc W A L) : ∀ b ∈ flat L, b < 256 := by
  intro b hb
  unfold flat texts at hb
  rw [List.mem_flatten] at hb
  obtain ⟨l, hl, hb⟩ := hb
  rw [List.mem_map] at hl
  obtain ⟨r, hr, rfl⟩ := hl
  obtain ⟨k, hk⟩ := List.getElem?_of_mem hr
  obtain ⟨ad, _, hc⟩ := h (by have := (List.getElem?_eq_some_iff.1 hk).1; omega)
  exact (hc k r hk).2.2.2.2 b hb
end Go.Proofs.Ytdlgceddhlagnaa
namespace Go.Proofs.Ytdlgceddhlagnaa
open Go.RowKit

/-- a stronger condition may be held from here on -/
theorem wpAnyH_more {P : Program} {md : Region.Mode} {ops : Array Oper} {Q : Exit → Act → World → Prop} {S S' : World → Prop} : ∀ {fuel : Nat} {listed : Array Bool} {a : Act} {w : World}, wpAnyH P md ops Q S' fuel listed a w → (∀ w, S' w → S w) → wpAnyH P md ops Q S fuel listed a w
  | 0, _, _, _, h, _ => h
  | _ + 1, _, _, _, h, hs => ⟨h.1, fun i hi => wpOp_mono (fun _ _ h' => ⟨hs _ h'.1, wpAnyH_more h'.2 hs⟩) (h.2 i hi)⟩

theorem take_at {P : Program} {md : Region.Mode} {ops : Array Oper} {Q : Exit → Act → World → Prop} {S : World → Prop} (i t : Nat) {oi : Oper} {v : Value} {fuel : Nat} {listed : Array Bool} {a : Act} {w : World} (hi : ops[i]? = some oi) (hd : oi.dst = some t)
    (hs : Region.noSelect ops = true) (hf : Region.free md ops listed i = true) (hr : (Region.ready md ops listed).contains i = true)
    (hQ : ∀ c a w, Q (.panic c) (a.put oi.dst v) w → Q (.panic c) a w) (hy : YieldsIf P ops S oi v a) (hS : S w)
    (h : wpAnyH P md ops Q S fuel (listed.setIfInBounds i true) (a.put (some t) v) w) : wpAnyH P md ops Q S (fuel + 1) listed a w :=
  wpAnyH_take hi hs hf hr hQ hy hS (by rw [hd]; exact h)

/-- what of a frame is forgotten -/
theorem wp_of_frame {P : Program} {c : Code} {Q : Exit → Act → World → Prop} {a : Act} {w : World} (xs : List (Option Value)) (h : Fr xs a) (k : ∀ a', Fr xs a' → c.wp P Q a' w) : c.wp P Q a w := k a h
end Go.Proofs.Ytdlgceddhlagnaa
