/-
  UmdBack: packets go there and back, in one way alone; what is read may be: the law walked.
-/
import Derived.Test.YtdklddpkklodnaaUBackK
namespace Go.Proofs.Ytdklddpkklodnaa
open Go.RowKit


theorem keep6 {W V : World} {g h : Nat} {a b c d e f : Value} (h1 : Row W g 24 #[a, b, c]) (h2 : Row W h 24 #[d, e, f]) (hb : Below W.heap.size W V) :
    V.cell? ⟨g, 0, none⟩ = some a ∧ V.cell? ⟨g, 1, none⟩ = some b ∧ V.cell? ⟨g, 2, none⟩ = some c ∧ V.cell? ⟨h, 0, none⟩ = some d ∧ V.cell? ⟨h, 1, none⟩ = some e ∧ V.cell? ⟨h, 2, none⟩ = some f :=
  ⟨(h1.later hb).read rfl, (h1.later hb).read rfl, (h1.later hb).read rfl, (h2.later hb).read rfl, (h2.later hb).read rfl, (h2.later hb).read rfl⟩
/-- behind the first part of the law: what is left to do -/
structure BackSt (w : World) (B : Option Addr) (nb cb : Nat) (bs : List Nat) (wd : Int) : Prop where
  len : bs.length = nb
  small : nb ≤ 4100
  room : nb ≤ cb
  cap : cb ≤ 9223372036854775807
  src : Src w B (bts bs)
  bytes : ∀ b ∈ bs, b < 256
section
variable {w : World} {B : Option Addr} {nb cb : Nat} {bs : List Nat} {wd : Int}
theorem BackSt.good (h : BackSt w B nb cb bs wd) {d fi sn : Nat} {t : List (List Nat)} (hd : wd = d) (hr : umdRd bs d = (0, fi, sn, t)) (W : World) (hb : Below w.heap.size w W) :
    Calls Try.prog 21 #[.slice B nb cb, .int .i64 wd] W fun e w' => ∃ (L : List RowB) (A : Option Addr) (c : Nat), t = texts L ∧ e = .returned (.tuple #[.agg #[.int .i64 fi, .int .i64 sn, .slice A L.length c], .int .i64 0]) ∧ OwnR W.heap.size w' (.slice A L.length c) L ∧ L.length ≤ c ∧ c ≤ 9223372036854775807 ∧ Below W.heap.size W w' := by
  refine (uread_any wd nb cb W h.len (by have := h.small; omega) h.room h.cap (src_later h.src hb) h.bytes).mono ?_
  rintro e w' ⟨g | g, hbl⟩
  · obtain ⟨d', fi', sn', L, A, c, e1, e2, rfl, ho, h1, h2⟩ := g
    obtain rfl : d = d' := by omega
    rw [hr] at e2
    simp only [Prod.mk.injEq, true_and] at e2
    obtain ⟨rfl, rfl, e3⟩ := e2
    exact ⟨L, A, c, e3, rfl, ho, h1, h2, hbl⟩
  · have := g.1 d hd
    rw [hr] at this
    exact absurd rfl this
theorem BackSt.bad (h : BackSt w B nb cb bs wd) (hr : ∀ d : Nat, wd = d → (umdRd bs d).1 ≠ 0) (W : World) (hb : Below w.heap.size w W) :
    Calls Try.prog 21 #[.slice B nb cb, .int .i64 wd] W fun e w' => ∃ er : Int, er ≠ 0 ∧ e = .returned (.tuple #[.agg #[.int .i64 0, .int .i64 0, .slice none 0 0], .int .i64 er]) ∧ Below W.heap.size W w' := by
  refine (uread_any wd nb cb W h.len (by have := h.small; omega) h.room h.cap (src_later h.src hb) h.bytes).mono ?_
  rintro e w' ⟨g | g, hbl⟩
  · obtain ⟨d', fi', sn', L, A, c, e1, e2, rfl, ho, h1, h2⟩ := g
    have := hr d' e1
    rw [e2] at this
    exact absurd rfl this
  · obtain ⟨_, er, h0, rfl⟩ := g
    exact ⟨er, h0, rfl, hbl⟩
end
theorem lens_small {W : World} {A : Option Addr} {L : List RowB} (h : RSrc W A L) : ∀ m ∈ lens L, m ≤ 9223372036854775807 := by
  intro m hm
  obtain ⟨k, hk⟩ := List.getElem?_of_mem hm
  simp only [lens, List.getElem?_map, Option.map_eq_some_iff] at hk
  obtain ⟨r, hr, rfl⟩ := hk
  obtain ⟨ad, _, hc⟩ := h (by have := (List.getElem?_eq_some_iff.1 hr).1; omega)
  have h9 := (hc k r hr).2
  have := h9.2.1
  have := h9.2.2.1
  omega
theorem write_back {W : World} {A : Option Addr} {L : List RowB} {bs : List Nat} {d fi sn : Nat} (c : Nat) (hb : ∀ b ∈ bs, b < 256) (hr : umdRd bs d = (0, fi, sn, texts L)) (hs : RSrc W A L) (hc : L.length ≤ c) (hcm : c ≤ 9223372036854775807) :
    (Calls Try.prog 15 #[.agg #[.int .i64 fi, .int .i64 sn, .slice A L.length c], .int .i64 d] W fun e w' => ∃ v', e = .returned (.tuple #[v', .int .i64 0]) ∧ OwnY W.heap.size w' v' bs ∧ Below W.heap.size W w') ∧
    (Calls Try.prog 17 #[.agg #[.int .i64 fi, .int .i64 sn, .slice A L.length c], .int .i64 d] W fun e w' => e = .returned (.bool true) ∧ Below W.heap.size W w') := by
  obtain ⟨h1, h2⟩ := umd_write hb hr
  have hm := lens_small hs
  constructor
  · have h3 := uwrite_ok fi sn d L.length c W rfl hc hcm hs hm h1
    rw [h2] at h3
    exact h3
  · have h3 := uright_any (A := A) fi sn d L.length c W rfl (by omega) hs hm
    rw [decide_eq_true (show 0 < umdF fi sn (lens L) d by have := umdF_nonneg fi sn (lens L) d; omega)] at h3
    exact h3
theorem write_none (W : World) (wd : Int) : Calls Try.prog 15 #[.agg #[.int .i64 0, .int .i64 0, .slice none 0 0], .int .i64 wd] W fun e w' => ∃ er : Int, e = .returned (.tuple #[.slice none 0 0, .int .i64 er]) ∧ Below W.heap.size W w' := by
  refine (uwrite_bad (A := none) (L := []) 0 0 wd 0 0 W rfl (by omega) (fun h => absurd h (by simp)) (fun m hm => by cases hm) ?_).mono ?_
  · unfold umdF
    split
    · unfold fieldsF
      rw [if_neg (fun h => by have := h.1; simp [lens] at this)]
    · rfl
  · rintro e w' ⟨rfl, hb⟩
    exact ⟨_, rfl, hb⟩

set_option maxRecDepth 100000 in
set_option maxHeartbeats 6400000 in
theorem uback_bad {A B : Option Addr} {L : List RowB} {bs : List Nat} (fi sn wd : Int) (n cap nb cb : Nat) (w : World) (hL : L.length = n) (hcap : n ≤ cap) (hcm : cap ≤ 9223372036854775807) (hs : RSrc w A L) (hm : ∀ m ∈ lens L, m ≤ 9223372036854775807) (hB : BackSt w B nb cb bs wd)
    (hw : umdF fi sn (lens L) wd = 0) :
    Calls Try.prog 5 #[.agg #[.int .i64 fi, .int .i64 sn, .slice A n cap], .slice B nb cb, .int .i64 wd] w fun e w' => e = .returned (.bool true) ∧ Below w.heap.size w w' := by
  have HGR := Lib.hid (great_any n cap (w.alloc (.cells #[.int .i64 fi, .int .i64 sn, .slice A n cap] 24)) hL (by omega) (hs.later (bl_alloc (Below.refl _ _) _)) hm)
  have hb41 : ¬ (4100 : Int) < nb := by have := hB.small; omega
  have HWP := Lib.hid (fun W (hb : Below w.heap.size w W) => (show Calls Try.prog 15 #[.agg #[.int .i64 fi, .int .i64 sn, .slice A n cap], .int .i64 wd] W fun e w' => ∃ er : Int, er ≠ 0 ∧ e = .returned (.tuple #[.slice none 0 0, .int .i64 er]) ∧ Below W.heap.size W w' from (uwrite_any fi sn wd n cap W hL hcap hcm (hs.later hb) hm).mono fun e w' h => by
    obtain ⟨h | h, hbl⟩ := h
    · exact absurd hw h.1
    · obtain ⟨_, er, h0, rfl⟩ := h
      exact ⟨er, h0, rfl, hbl⟩))
  have HBS := Lib.hid hB
  clear hs hL hm hw hB
  by_cases hg : ∃ (d a b : Nat) (t : List (List Nat)), wd = d ∧ umdRd bs d = (0, a, b, t)
  · obtain ⟨d, q0, q1, t, rfl, hr⟩ := hg
    have HRB := Lib.hid (fun W hb => HBS.out.good rfl hr W hb)
    have HR := Lib.hid hr
    clear hr
    have HWB := Lib.hid (fun W A L c (ht : t = texts L) (hs : RSrc W A L) (hc : L.length ≤ c) (hcm : c ≤ 9223372036854775807) => (write_back (W := W) c HBS.out.bytes (by rw [← ht]; exact HR.out) hs hc hcm).1)
    have HRT := Lib.hid (fun W A L c (ht : t = texts L) (hs : RSrc W A L) (hc : L.length ≤ c) (hcm : c ≤ 9223372036854775807) => (write_back (W := W) c HBS.out.bytes (by rw [← ht]; exact HR.out) hs hc hcm).2)
    go_enter Try.func5, Try.ntmps5
    go_wp2_with (go_at_call 11; refine HGR.out.mono ?_; rintro e w1 ⟨⟨b, rfl, hbb⟩, rfl⟩; cases b)
    · clear hbb
      go_wp2_with (first
        | (go_at_call 15; (with_reducible refine (HWP.out _ (bl_alloc (Below.refl _ _) _)).mono ?_); rintro e w1 ⟨er, he0, rfl, hb1⟩; (have her : (er == 0) = false := by simpa using he0); (have HB1 := Lib.hid (bl_step (bl_alloc (Below.refl w.heap.size w) _) hb1); clear hb1 he0))
        | (go_at_call 21; (with_reducible refine (HRB.out w1 HB1.out).mono ?_); rintro e w7 ⟨L7, A7, c7, ht7, rfl, ho7, hl7, hc7, hb7⟩; (have HT7 := Lib.hid ht7; have HO7 := Lib.hid ho7; have HB7 := Lib.hid (HB1.out.trans (hb7.mono HB1.out.size)); have HW7 := Lib.hid (HWB.out (w7.alloc (.cells #[.int .i64 q0, .int .i64 q1, .slice A7 L7.length c7] 24)) A7 L7 c7 ht7 ((ho7.later (bl_alloc (Below.refl _ _) _)).src) hl7 hc7); clear hb7 ho7 ht7))
        | (go_at_call 15; (with_reducible refine HW7.out.mono ?_); rintro e w8 ⟨y8, rfl, hy8, hb8⟩; obtain ⟨Ay, cy, hyv, _⟩ := hy8.form; rw [HBS.out.len] at hyv; subst hyv; (have HY8 := Lib.hid hy8; have HB78 := Lib.hid (bl_step (bl_alloc (Below.refl w7.heap.size w7) _) hb8); have HB8 := Lib.hid (HB7.out.trans (HB78.out.mono HB7.out.size)); have ROW8 := Lib.hid ((Row.made w7 24 #[.int .i64 q0, .int .i64 q1, .slice A7 L7.length c7]).later hb8); clear hb8 hy8))
        | (go_at_call 12; (with_reducible refine (ualive_any _).mono ?_); rintro e w9 ⟨rfl, hb9⟩; (have HB9 := Lib.hid (HB8.out.trans (hb9.mono HB8.out.size)); have r9 := ROW8.out.later hb9; have r90 := r9.read (i := 0) rfl; have r91 := r9.read (i := 1) rfl; have r92 := r9.read (i := 2) rfl; have HY9 := Lib.hid (HY8.out.later hb9); have HRI := Lib.hid (HRT.out w9 A7 L7 c7 HT7.out (((HO7.out.later HB78.out).later hb9).src) hl7 hc7); clear hb9 r9))
        | (go_at_call 17; (with_reducible refine HRI.out.mono ?_); rintro e w10 ⟨rfl, hb10⟩; (have HB10 := Lib.hid (HB9.out.trans (hb10.mono HB9.out.size)); have cv1 := (HY9.out.later hb10).conv HBS.out.bytes; have cv2 := conv_src nb cb HBS.out.len (src_later HBS.out.src HB10.out) HBS.out.bytes; clear hb10)))
      go_ret
      exact ⟨rfl, HB10.out⟩
    · go_wp2_with (go_at_call 12; refine (ualive_any _).mono ?_; rintro e w2 ⟨rfl, hb2⟩)
      go_ret
      exact ⟨rfl, bl_step (bl_alloc (Below.refl _ _) _) hb2⟩
  · have hr : ∀ d : Nat, wd = d → (umdRd bs d).1 ≠ 0 := fun d hd h0 => hg ⟨d, (umdRd bs d).2.1, (umdRd bs d).2.2.1, (umdRd bs d).2.2.2, hd, by rw [← h0]⟩
    have HRB := Lib.hid (fun W hb => HBS.out.bad hr W hb)
    clear hr hg
    go_enter Try.func5, Try.ntmps5
    go_wp2_with (go_at_call 11; refine HGR.out.mono ?_; rintro e w1 ⟨⟨b, rfl, hbb⟩, rfl⟩; cases b)
    · clear hbb
      go_wp2_with (first
        | (go_at_call 15; (with_reducible refine (HWP.out _ (bl_alloc (Below.refl _ _) _)).mono ?_); rintro e w1 ⟨er, he0, rfl, hb1⟩; (have her : (er == 0) = false := by simpa using he0); (have HB1 := Lib.hid (bl_step (bl_alloc (Below.refl w.heap.size w) _) hb1); clear hb1 he0))
        | (go_at_call 21; (with_reducible refine (HRB.out w1 HB1.out).mono ?_); rintro e w7 ⟨er7, he7, rfl, hb7⟩; (have her7 : (er7 != 0) = true := by simpa using he7); (have HB7 := Lib.hid (HB1.out.trans (hb7.mono HB1.out.size)); clear hb7 he7))
        | (go_at_call 15; (with_reducible refine (write_none _ wd).mono ?_); rintro e w8 ⟨er8, rfl, hb8⟩; (have HB8 := Lib.hid (HB7.out.trans ((bl_step (bl_alloc (Below.refl w7.heap.size w7) _) hb8).mono HB7.out.size)); clear hb8))
        | (go_at_call 12; (with_reducible refine (ualive_any _).mono ?_); rintro e w9 ⟨rfl, hb9⟩; (have HB9 := Lib.hid (HB8.out.trans (hb9.mono HB8.out.size)); clear hb9)))
      go_ret
      exact ⟨rfl, HB9.out⟩
    · go_wp2_with (go_at_call 12; refine (ualive_any _).mono ?_; rintro e w2 ⟨rfl, hb2⟩)
      go_ret
      exact ⟨rfl, bl_step (bl_alloc (Below.refl _ _) _) hb2⟩
end Go.Proofs.Ytdklddpkklodnaa
