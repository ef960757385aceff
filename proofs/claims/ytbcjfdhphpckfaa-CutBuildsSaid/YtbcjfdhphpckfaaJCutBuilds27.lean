/-
  cut: Fits; what Build and Fits refuse. queue: the code's queue and the document's one together: the bytes that wait, and the numbers. law04: same, of two lists of numbers that hold the same. Whether two packets of umd are equal, as the code and the document say. Both cutters: what the document's refuses; both queues; two pieces that are the same. Both cutters beside one another: what is pushed, and built, at once. A call of bytes and two numbers, and where calls lie.
-/
import Derived.Test.YtbcjfdhphpckfaaJCutBuilds24
import Derived.Test.YtbcjfdhphpckfaaJCutBuilds25
import Derived.Test.YtbcjfdhphpckfaaJCutBuilds18
import Derived.StillTailTactics
import Derived.Test.YtbcjfdhphpckfaaJCutBuilds26
import Derived.Deep.DeepCutAuto
import Derived.Deep.CutBlock
import Derived.BigQuiet
import Derived.Test.YtbcjfdhphpckfaaJCutBuilds10
namespace Go.Proofs.Ytbcjfdhphpckfaa
open Go.RowKit

section
variable {B p last : Nat} {R : Int} {w v : World} {ts : List Txt}
theorem cut_width {x : Int} : 0 < sizeF 1 x ↔ x = 11 ∨ x = 15 := by
  constructor
  · intro h
    cases hk : okW x
    · unfold sizeF at h
      rw [hk] at h
      simp at h
    · exact okW_nat hk
  · rintro (rfl | rfl) <;> decide
set_option maxRecDepth 100000 in
set_option maxHeartbeats 1600000 in
theorem cbuild_bad (h : QS B p R w last ts) (room x : Int) (hr : 0 < R) (hf : faultC room x ≠ 0) :
    Calls Try.prog 32 #[.pointer (some ⟨p, 0, none⟩), .int .i64 room, .int .i64 x] w fun e w' => e = .returned (.tuple #[.agg #[.int .i64 0, .slice none 0 0, .slice none 0 0], .int .i64 (faultC room x)]) ∧ QS B p R w' last ts ∧ QOnly B w w' := by
  have hb0 := bl_alloc (Below.refl w.heap.size w) (.cells #[.int .i64 0, .slice none 0 0, .slice none 0 0] 58)
  have HF := Lib.hid (cfault_any room x (h.q.later hb0) hr (by have := h.many; omega) (fun t ht => (h.ids t ht).1))
  have HROW := Lib.hid (Row.made w 58 #[.int .i64 0, .slice none 0 0, .slice none 0 0])
  have HB0 := Lib.hid hb0
  have H := Lib.hid h
  generalize faultC room x = fc at *
  have hfc : (fc != 0) = true := by simpa using hf
  have hfb : (fc == 0) = false := by simpa using hf
  clear h hf hb0
  go_enter Try.func32, Try.ntmps32
  go_wp2
  refine wp_scope_through 0 (fun _ _ => False) muC rfl ?_ ?_
  · intro hrest
    go_wp2_with (go_at_call 114; (with_reducible refine HF.out.mono ?_); rintro e w1 ⟨rfl, hq, ho⟩; (
      have HQ := Lib.hid hq
      have HO := Lib.hid ho
      have HR1 := Lib.hid (ho.row HROW.out (by decide) (by decide))
      have d0 := HR1.out.read (i := 0) (x := .int .i64 0) rfl
      have d1 := HR1.out.read (i := 1) (x := .slice none 0 0) rfl
      have d2 := HR1.out.read (i := 2) (x := .slice none 0 0) rfl
      have g0 := HR1.out.free 0
      have g1 := HR1.out.free 1
      have g2 := HR1.out.free 2
      clear hq ho))
    try simp only [Exit.jump]
    obtain ⟨d24, hu24⟩ := underpc_parts
    refine bodyPost_ret (results_two rfl _ _ w.heap.size 58 #[.int .i64 0, .slice none 0 0, .slice none 0 0] d24 rfl (((HR1.out.written 0 (.int .i64 0)).written 1 (.slice none 0 0)).written 2 (.slice none 0 0)) hu24 Try.infopcs) rfl ?_
    have ho : Only (fun k => k = w.heap.size) w1 (((w1.setCell ⟨w.heap.size, 0, none⟩ (.int .i64 0)).setCell ⟨w.heap.size, 1, none⟩ (.slice none 0 0)).setCell ⟨w.heap.size, 2, none⟩ (.slice none 0 0)) := (((Only.refl (fun k => k = w.heap.size) w1).set (p := ⟨w.heap.size, 0, none⟩) (.inl rfl) _).set (p := ⟨w.heap.size, 1, none⟩) (.inl rfl) _).set (p := ⟨w.heap.size, 2, none⟩) (.inl rfl) _
    refine ⟨rfl, H.out.with (HQ.out.apart ho (fun k hk t cs hr => ?_)), (QOnly.of_below HB0.out).trans HO.out |>.fresh (Nat.le_refl _) ho⟩
    subst hk
    have e := qrow_same HR1.out hr
    subst e
    exact ⟨by decide, by decide, by decide⟩
  · intro a w h
    cases h
set_option maxRecDepth 100000 in
set_option maxHeartbeats 1600000 in
theorem cbuild_nil (room x : Int) (w : World) : Calls Try.prog 32 #[.pointer none, .int .i64 room, .int .i64 x] w fun e w' => e = .returned (.tuple #[.agg #[.int .i64 0, .slice none 0 0, .slice none 0 0], .int .i64 6]) ∧ Below w.heap.size w w' := by
  have HF := Lib.hid (fun W => cfault_nil room x W)
  have HROW := Lib.hid (Row.made w 58 #[.int .i64 0, .slice none 0 0, .slice none 0 0])
  have HB0 := Lib.hid (bl_alloc (Below.refl w.heap.size w) (.cells #[.int .i64 0, .slice none 0 0, .slice none 0 0] 58))
  go_enter Try.func32, Try.ntmps32
  go_wp2
  refine wp_scope_through 0 (fun _ _ => False) muC rfl ?_ ?_
  · intro hrest
    go_wp2_with (go_at_call 114; (with_reducible refine (HF.out _).mono ?_); rintro e w1 ⟨rfl, rfl⟩)
    try simp only [Exit.jump]
    obtain ⟨d24, hu24⟩ := underpc_parts
    refine bodyPost_ret (results_two rfl _ _ w.heap.size 58 #[.int .i64 0, .slice none 0 0, .slice none 0 0] d24 rfl HROW.out hu24 Try.infopcs) rfl ?_
    exact ⟨rfl, HB0.out⟩
  · intro a w h
    cases h
set_option maxRecDepth 100000 in
set_option maxHeartbeats 1600000 in
theorem cbuild_zero {a b : Value} (room x : Int) (h : Row w p 51 #[.int .i64 0, a, b]) : Calls Try.prog 32 #[.pointer (some ⟨p, 0, none⟩), .int .i64 room, .int .i64 x] w fun e w' => e = .returned (.tuple #[.agg #[.int .i64 0, .slice none 0 0, .slice none 0 0], .int .i64 6]) ∧ Below w.heap.size w w' := by
  have HB0 := Lib.hid (bl_alloc (Below.refl w.heap.size w) (.cells #[.int .i64 0, .slice none 0 0, .slice none 0 0] 58))
  have HF := Lib.hid (cfault_zero room x (h.later HB0.out))
  have HROW := Lib.hid (Row.made w 58 #[.int .i64 0, .slice none 0 0, .slice none 0 0])
  clear h
  go_enter Try.func32, Try.ntmps32
  go_wp2
  refine wp_scope_through 0 (fun _ _ => False) muC rfl ?_ ?_
  · intro hrest
    go_wp2_with (go_at_call 114; (with_reducible refine HF.out.mono ?_); rintro e w1 ⟨rfl, rfl⟩)
    try simp only [Exit.jump]
    obtain ⟨d24, hu24⟩ := underpc_parts
    refine bodyPost_ret (results_two rfl _ _ w.heap.size 58 #[.int .i64 0, .slice none 0 0, .slice none 0 0] d24 rfl HROW.out hu24 Try.infopcs) rfl ?_
    exact ⟨rfl, HB0.out⟩
  · intro a w h
    cases h
set_option maxRecDepth 100000 in
set_option maxHeartbeats 1600000 in
theorem cfits_nil (room x : Int) (w : World) : Calls Try.prog 31 #[.pointer none, .int .i64 room, .int .i64 x] w fun e w' => e = .returned (.bool false) ∧ w = w' := by
  have HF := Lib.hid (fun W => cfault_nil room x W)
  go_enter Try.func31, Try.ntmps31
  go_wp2_with (go_at_call 114; (with_reducible refine (HF.out _).mono ?_); rintro e w1 ⟨rfl, rfl⟩)
  go_ret
  exact ⟨rfl, rfl⟩
set_option maxRecDepth 100000 in
set_option maxHeartbeats 1600000 in
theorem cfits_zero {a b : Value} (room x : Int) (h : Row w p 51 #[.int .i64 0, a, b]) : Calls Try.prog 31 #[.pointer (some ⟨p, 0, none⟩), .int .i64 room, .int .i64 x] w fun e w' => e = .returned (.bool false) ∧ w = w' := by
  have HF := Lib.hid (cfault_zero room x h)
  clear h
  go_enter Try.func31, Try.ntmps31
  go_wp2_with (go_at_call 114; (with_reducible refine HF.out.mono ?_); rintro e w1 ⟨rfl, rfl⟩)
  go_ret
  exact ⟨rfl, rfl⟩
def fitsC (ts : List Txt) (room x : Int) : Bool := decide (faultC room x = 0 ∧ 0 < nextF ((lenT ts).getD 0 0) [] room x)
set_option maxRecDepth 100000 in
set_option maxHeartbeats 3200000 in
theorem cfits_any (h : QS B p R w last ts) (room x : Int) (hr : 0 < R) :
    Calls Try.prog 31 #[.pointer (some ⟨p, 0, none⟩), .int .i64 room, .int .i64 x] w fun e w' => e = .returned (.bool (fitsC ts room x)) ∧ QS B p R w' last ts ∧ QOnly B w w' := by
  have HF := Lib.hid (cfault_any room x h.q hr (by have := h.many; omega) (fun t ht => (h.ids t ht).1))
  have H := Lib.hid h
  by_cases hf : faultC room x = 0
  · have hx : 0 < sizeF 1 x ∧ 0 ≤ room ∧ room ≤ 4000 := by
      unfold faultC at hf
      split at hf
      · split at hf
        · omega
        · omega
      · omega
    obtain ⟨hx1, hr0, hr1⟩ := hx
    have HNX := Lib.hid (fun (wl wc : Nat) (W0 : Option Addr) (W : World) => (cutnext_any (A := none) (W := W0) (L := []) wl wc 0 0 room x W rfl (by omega) hr0 hr1 (fun h => absurd h (by simp)) (by simp [lens]) : Calls Try.prog 115 #[.slice W0 wl wc, .slice none 0 0, .int .i64 room, .int .i64 x] W fun e w' => e = .returned (.int .i64 (nextF wl (lens []) room x)) ∧ W = w'))
    have HNN : Hid (∀ (wl wc : Nat) (W0 : Option Addr) (W : World), Calls Try.prog 115 #[.slice W0 wl wc, .slice none 0 0, .int .i64 room, .int .i64 x] W fun e w' => e = .returned (.int .i64 (nextF wl [] room x)) ∧ W = w') := HNX
    clear HNX
    rw [hf] at HF
    have hfit : fitsC ts room x = decide (0 < nextF ((lenT ts).getD 0 0) [] room x) := by unfold fitsC; simp [hf]
    rw [hfit]
    clear hf hx1 h hfit
    cases ts with
    | nil =>
      have hl0 : (lenT ([] : List Txt)).getD 0 0 = 0 := rfl
      rw [hl0]
      have HFR := Lib.hid (fun (W : World) (hq : QRep B W p R last []) => front_none hq hr)
      go_enter Try.func31, Try.ntmps31
      go_wp2_with (first
        | (go_at_call 114; (with_reducible refine HF.out.mono ?_); rintro e w1 ⟨rfl, hq, ho⟩; (have HQ := Lib.hid hq; have HO := Lib.hid ho; clear hq ho))
        | (go_at_call 24; (with_reducible refine (HFR.out _ HQ.out).mono ?_); rintro e _ ⟨rfl, rfl⟩)
        | (go_at_call 115; (with_reducible refine (HNN.out _ _ _ _).mono ?_); rintro e _ ⟨rfl, rfl⟩))
      go_ret
      exact ⟨rfl, H.out.with HQ.out, HO.out⟩
    | cons t r =>
      have hl0 : (lenT (t :: r)).getD 0 0 = t.bs.length := rfl
      rw [hl0]
      obtain ⟨hb0, hb1, hb2⟩ := H.out.bytes t (List.mem_cons_self ..)
      have HFR := Lib.hid (fun (W : World) (hq : QRep B W p R last (t :: r)) => front_ok hq hr hb0 (by omega))
      clear hb2
      go_enter Try.func31, Try.ntmps31
      go_wp2_with (first
        | (go_at_call 114; (with_reducible refine HF.out.mono ?_); rintro e w1 ⟨rfl, hq, ho⟩; (have HQ := Lib.hid hq; have HO := Lib.hid ho; clear hq ho))
        | (go_at_call 24; (with_reducible refine (HFR.out _ HQ.out).mono ?_); rintro e w2 ⟨g, rfl, _, _, hb⟩; (have HB2 := Lib.hid hb; clear hb))
        | (go_at_call 115; (with_reducible refine (HNN.out _ _ _ _).mono ?_); rintro e _ ⟨rfl, rfl⟩))
      go_ret
      exact ⟨rfl, H.out.with (HQ.out.later HB2.out), HO.out.trans (QOnly.of_below HB2.out)⟩
  · have hfit : fitsC ts room x = false := by unfold fitsC; simp [hf]
    rw [hfit]
    generalize faultC room x = fc at HF hf
    have hfc : (fc != 0) = true := by simpa using hf
    have hfb : (fc == 0) = false := by simpa using hf
    clear h hf hfit
    go_enter Try.func31, Try.ntmps31
    go_wp2_with (go_at_call 114; (with_reducible refine HF.out.mono ?_); rintro e w1 ⟨rfl, hq, ho⟩; (have HQ := Lib.hid hq; have HO := Lib.hid ho; clear hq ho))
    go_ret
    exact ⟨rfl, H.out.with HQ.out, HO.out⟩
theorem Bld.fit {room x n : Int} {k : Nat} (h : Bld room x (lenT ts) k n) (hp : ∀ t ∈ ts, 0 < t.bs.length) : (0 < k ∨ 0 < n) ↔ 0 < nextF ((lenT ts).getD 0 0) [] room x := by
  rcases Nat.eq_zero_or_pos k with h0 | h0
  · subst h0
    have h1 := h.next
    simp only [List.take_zero] at h1
    omega
  · have hl := h.le
    have h1 : 0 < (lenT ts).length := by omega
    have h2 := getD_at h1
    have h3 := h.whole 0 _ h0 h2
    simp only [List.take_zero] at h3
    have h4 := lenT_pos hp _ (List.mem_of_getElem? h2)
    constructor
    · intro _; omega
    · intro _; exact .inl h0
end
end Go.Proofs.Ytbcjfdhphpckfaa
namespace Go.Proofs.Ytbcjfdhphpckfaa
open Go.RowKit

section
variable {w v u : World} {p y B : Nat} {room : Int} {ts r : List Txt} {t : Txt} {E : List Ent} {n : Nat}
theorem both_bytes (h : QB w p y B room ts E) : Calls Try.prog 26 #[.pointer (some ⟨p, 0, none⟩)] w fun e w1 => e = .returned (.int .i64 (bytesF ts : Nat)) ∧ KR XQ B w w1 ∧
    Calls Try.prog 27 #[.pointer (some ⟨y, 0, none⟩)] w1 fun e w3 => e = .returned (.int .i64 (bytesF ts : Nat)) ∧ KR XQ B w1 w3 ∧ QB w3 p y B room ts E := by
  refine (qbytes_any h.c h.r0 (by have := h.bt; have := h.r1; omega)).mono ?_
  rintro e w1 ⟨rfl, hb1⟩
  have h' := h.later hb1
  refine ⟨rfl, KR.of_below h.hB hb1, (rq_bytes h'.r).mono ?_⟩
  rintro e w3 ⟨rfl, hb3⟩
  exact ⟨by rw [h.bytes], KR.of_below h'.hB hb3, h'.later hb3⟩
theorem both_ids (h : QB w p y B room ts E) : Calls Try.prog 28 #[.pointer (some ⟨p, 0, none⟩)] w fun e w1 => ∃ g, e = .returned (.slice (some ⟨g, 0, none⟩) ts.length ts.length) ∧ w.heap.size ≤ g ∧ Row w1 g 37 (idv ts).toArray ∧ KR XQ B w w1 ∧
    Calls Try.prog 29 #[.pointer (some ⟨y, 0, none⟩)] w1 fun e w3 => ∃ A c, e = .returned (.slice A ts.length c) ∧ SlAt w1.heap.size 37 w3 A (idv ts) ∧ KR XQ B w1 w3 ∧ QB w3 p y B room ts E := by
  refine (ids_any h.c h.r0 (by have := h.ln; omega)).mono ?_
  rintro e w1 ⟨g, rfl, hg, hrow, hb1⟩
  have h' := h.later hb1
  refine ⟨g, rfl, hg, hrow, KR.of_below h.hB hb1, (rq_ids h'.r).mono ?_⟩
  rintro e w3 ⟨A, c, rfl, hs3, hb3⟩
  rw [h.idl] at hs3
  rw [h.ids]
  exact ⟨A, c, rfl, hs3, KR.of_below h'.hB hb3, h'.later hb3⟩
end
end Go.Proofs.Ytbcjfdhphpckfaa
namespace Go.Proofs.Ytbcjfdhphpckfaa
open Go.RowKit

section
set_option maxRecDepth 100000 in
set_option maxHeartbeats 1600000 in
theorem qsame_any {A1 A2 : Option Addr} {B1 B2 n : Nat} (c1 c2 : Nat) (xs : List Nat) (w : World) (hn : xs.length = n) (hb : n ≤ 100000) (h1 : SlAt B1 37 w A1 (u64v xs)) (h2 : SlAt B2 37 w A2 (u64v xs)) :
    Calls Try.prog 21 #[.slice A1 n c1, .slice A2 n c2] w fun e w' => e = .returned (.bool true) ∧ Below w.heap.size w w' := by
  have H1 := Lib.hid h1
  have H2 := Lib.hid h2
  have HN := Lib.hid hn
  clear h1 h2 hn
  go_enter Try.func21, Try.ntmps21
  go_wp2
  go_loopw [5] (fun s5 wr => ∃ i : Nat, i ≤ n ∧ s5 = .int .i64 i ∧ Hid (Below w.heap.size w wr)) (fun s5 _ => n - (intOf s5).toNat)
  case atStart => exact ⟨0, by omega, rfl, Lib.hid (Below.refl _ _)⟩
  case round =>
    obtain ⟨i, hi, rfl, HB⟩ := hrel
    by_cases hlt : i < n
    · have h1 : (i : Int) < n := by omega
      have h0 : (0 : Int) ≤ i := by omega
      obtain ⟨v, hv⟩ : ∃ v, xs[i]? = some v := ⟨_, List.getElem?_eq_getElem (by rw [HN.out]; exact hlt)⟩
      have hvv : (u64v xs)[i]? = some (.int .u64 (v : Int)) := by unfold u64v; rw [List.getElem?_map, hv]; rfl
      obtain ⟨g1, rfl, z1⟩ := (H1.out.later HB.out).cell hvv
      obtain ⟨g2, rfl, z2⟩ := (H2.out.later HB.out).cell hvv
      have HLT := Lib.hid hlt
      clear hv hvv hlt
      go_wp2
      go_quiet (fail)
      go_wp2
      go_roundw
      case rel => exact ⟨i + 1, by have := HLT.out; omega, by go_num, Lib.hid (below_drewN HB.out _)⟩
      case measure => have := HLT.out; simp [intOf]; omega
    · have h1 : ¬ (i : Int) < n := by omega
      clear hlt
      go_wp2
      go_ret
      exact ⟨rfl, HB.out⟩
theorem idv_u64 (ts : List Txt) : idv ts = u64v (ts.map Txt.id) := by unfold idv u64v; rw [List.map_map]; rfl
theorem row_slat {w : World} {g m E : Nat} {xs : List Value} (hm : m ≤ g) (h : Row w g E xs.toArray) : SlAt m E w (some ⟨g, 0, none⟩) xs :=
  fun _ => ⟨g, _, rfl, hm, h, fun i u hu => by simpa using hu⟩
end
end Go.Proofs.Ytbcjfdhphpckfaa
namespace Go.Proofs.Ytbcjfdhphpckfaa
open Go.RowKit
def SameAns (b : Bool) (w : World) (e : Ending) (w' : World) : Prop := e = .returned (.bool b) ∧ Below w.heap.size w w'
set_option maxRecDepth 100000 in
set_option maxHeartbeats 1600000 in
theorem samef_any {A B : Option Addr} {L M : List RowB} (n m cap capb : Nat) (w : World) (hL : L.length = n) (hM : M.length = m) (hn : n ≤ 9223372036854775807) (hs : RSrc w A L) (hs' : RSrc w B M) :
    Calls Try.prog 87 #[.slice A n cap, .slice B m capb] w (SameAns (decide (texts L = texts M)) w) := by
  by_cases h : n = m
  · subst h
    have HS := Lib.hid hs
    have HS2 := Lib.hid hs'
    have HL := Lib.hid hL
    have HM := Lib.hid hM
    have hnn : ((n : Int) != (n : Int)) = false := by simp
    clear hs hs' hL hM
    go_enter Try.func87, Try.ntmps87
    go_wp2
    go_loopw [5] (fun i wr => ∃ k : Nat, k ≤ n ∧ i = .int .i64 k ∧ Hid (sameTo (texts L) (texts M) k) ∧ Hid (Below w.heap.size w wr)) (fun i _ => n - (intOf i).toNat)
    case atStart => exact ⟨0, by omega, rfl, Lib.hid (fun j hj => by omega), Lib.hid (Below.refl _ _)⟩
    case round =>
      obtain ⟨k, hk, rfl, HK, HB⟩ := hrel
      by_cases hlt : k < n
      · obtain ⟨ad, rfl, hc⟩ := HS.out (by rw [HL.out]; omega)
        obtain ⟨bd, rfl, hc'⟩ := HS2.out (by rw [HM.out]; omega)
        obtain ⟨r, hr⟩ : ∃ r, L[k]? = some r := ⟨_, List.getElem?_eq_getElem (by rw [HL.out]; exact hlt)⟩
        obtain ⟨r', hr'⟩ : ∃ r, M[k]? = some r := ⟨_, List.getElem?_eq_getElem (by rw [HM.out]; exact hlt)⟩
        have hbd : Below w.heap.size w wr.drew := bl_drew HB.out
        have c1 : wr.drew.cell? (ad.add k) = some (.slice r.A r.bs.length r.cap) := cell_below hbd (hc k r hr).1
        have c2 : wr.drew.cell? (bd.add k) = some (.slice r'.A r'.bs.length r'.cap) := cell_below hbd (hc' k r' hr').1
        have ho := (hc k r hr).2.later hbd
        have ho' := (hc' k r' hr').2.later hbd
        have d1 := conv_src r.bs.length r.cap rfl ho.1 ho.2.2.2
        have d2 := conv_src r'.bs.length r'.cap rfl ho'.1 ho'.2.2.2
        have hq := strOf_beq ho.2.2.2 ho'.2.2.2
        have hstep : r.bs = r'.bs → sameTo (texts L) (texts M) (k + 1) := fun he j hj => by
          rcases Nat.lt_or_ge j k with h2 | h2
          · exact HK.out j h2
          · obtain rfl : j = k := by omega
            rw [texts_at hr, texts_at hr', he]
        have hdiff : r.bs ≠ r'.bs → texts L ≠ texts M := fun hd he => hd (by
          have h3 := texts_at hr
          rw [he, texts_at hr'] at h3
          injection h3 with h3
          exact h3.symm)
        have HST := Lib.hid hstep
        have HDF := Lib.hid hdiff
        have HBD := Lib.hid hbd
        clear hc hc' hr hr' ho ho' hstep hdiff hbd
        by_cases he : r.bs = r'.bs
        · have HE := Lib.hid he
          rw [decide_eq_true he] at hq
          have hq2 : ((strOf r.bs).toList != (strOf r'.bs).toList) = false := by rw [bne, hq]; rfl
          clear he
          generalize r.bs.length = n1 at *
          generalize r'.bs.length = n2 at *
          generalize strOf r.bs = s1 at *
          generalize strOf r'.bs = s2 at *
          go_wp2_with fail
          refine wp_region_still_lit (by kernel_rfl) (by kernel_rfl) ?_
          change wpStill _ _ wr.drew (fun b => _) _ _
          generalize wr.drew = w9 at c1 c2 d1 d2 ⊢
          repeat still_step
          refine wpStill_nil ?_
          go_wp2_with fail
          go_roundw
          case rel => exact ⟨k + 1, by omega, by go_num, Lib.hid (HST.out HE.out), HBD⟩
          case measure => simp [intOf]; omega
        · have HE := Lib.hid he
          rw [decide_eq_false he] at hq
          have hq2 : ((strOf r.bs).toList != (strOf r'.bs).toList) = true := by rw [bne, hq]; rfl
          clear he
          generalize r.bs.length = n1 at *
          generalize r'.bs.length = n2 at *
          generalize strOf r.bs = s1 at *
          generalize strOf r'.bs = s2 at *
          go_wp2_with fail
          refine wp_region_still_lit (by kernel_rfl) (by kernel_rfl) ?_
          change wpStill _ _ wr.drew (fun b => _) _ _
          generalize wr.drew = w9 at c1 c2 d1 d2 ⊢
          repeat still_step
          refine wpStill_nil ?_
          go_wp2_with fail
          go_ret
          exact ⟨by rw [decide_eq_false (HDF.out HE.out)]; rfl, HBD.out⟩
      · have hkn : k = n := by omega
        have HA := Lib.hid (show texts L = texts M from sameTo_all (by rw [length_texts, length_texts, HL.out, HM.out]) (by rw [length_texts, HL.out, ← hkn]; exact HK.out))
        clear hkn
        go_wp2
        go_ret
        exact ⟨by rw [decide_eq_true HA.out]; rfl, HB.out⟩
  · have HF := Lib.hid (show decide (texts L = texts M) = false from decide_eq_false fun h1 => h (by have := congrArg List.length h1; rw [length_texts, length_texts] at this; omega))
    have hnm : ((n : Int) != (m : Int)) = true := by simp; omega
    clear hL hM hs hs' h
    go_enter Try.func87, Try.ntmps87
    go_wp2
    go_ret
    exact ⟨by rw [HF.out]; rfl, Below.refl _ _⟩

end Go.Proofs.Ytbcjfdhphpckfaa
namespace Go.Proofs.Ytbcjfdhphpckfaa
open Go.RowKit

section
variable {w v : World} {y B p : Nat} {R : Int} {ts : List Txt} {E : List Ent}
set_option maxRecDepth 100000 in
set_option maxHeartbeats 1600000 in
theorem rcut_kind {a : Value} (room x : Int) (w : World) (h1 : x ≠ 11) (h2 : x ≠ 15) : Calls Try.prog 33 #[a, .int .i64 room, .int .i64 x] w fun e w' => e = .returned (.tuple #[.agg #[.int .i64 0, .slice none 0 0, .slice none 0 0], .int .i64 9]) ∧ Below w.heap.size w w' := by
  have HROW := Lib.hid (Row.made w 61 #[.int .i64 0, .slice none 0 0, .slice none 0 0])
  have HB0 := Lib.hid (bl_alloc (Below.refl w.heap.size w) (.cells #[.int .i64 0, .slice none 0 0, .slice none 0 0] 61))
  have e1 : (x != 11) = true := by simpa using h1
  have e2 : (x != 15) = true := by simpa using h2
  clear h1 h2
  go_enter Try.func33, Try.ntmps33
  go_wp2
  try simp only [Exit.jump]
  obtain ⟨d24, hu24⟩ := underrpc_parts
  refine bodyPost_ret (results_two rfl _ _ w.heap.size 61 #[.int .i64 0, .slice none 0 0, .slice none 0 0] d24 rfl HROW.out hu24 Try.inforpcs) rfl ?_
  exact ⟨rfl, HB0.out⟩
set_option maxRecDepth 100000 in
set_option maxHeartbeats 1600000 in
theorem rcut_arg {a : Value} (room x : Int) (w : World) (h1 : x = 11 ∨ x = 15) (h2 : room < 0 ∨ 4000 < room) : Calls Try.prog 33 #[a, .int .i64 room, .int .i64 x] w fun e w' => e = .returned (.tuple #[.agg #[.int .i64 0, .slice none 0 0, .slice none 0 0], .int .i64 1]) ∧ Below w.heap.size w w' := by
  have HROW := Lib.hid (Row.made w 61 #[.int .i64 0, .slice none 0 0, .slice none 0 0])
  have HB0 := Lib.hid (bl_alloc (Below.refl w.heap.size w) (.cells #[.int .i64 0, .slice none 0 0, .slice none 0 0] 61))
  by_cases h3 : room < 0
  all_goals rcases h1 with rfl | rfl
  all_goals
    first
      | (have h4 : 4000 < room := by omega)
      | skip
    clear h2
    go_enter Try.func33, Try.ntmps33
    go_wp2
    try simp only [Exit.jump]
    obtain ⟨d24, hu24⟩ := underrpc_parts
    refine bodyPost_ret (results_two rfl _ _ w.heap.size 61 #[.int .i64 0, .slice none 0 0, .slice none 0 0] d24 rfl HROW.out hu24 Try.inforpcs) rfl ?_
    exact ⟨rfl, HB0.out⟩
theorem rcut_any (room x : Int) (h : RQ w y B R E) (hl : tx ts = live 0 E) (hB : B ≤ w.heap.size) (h8 : ∀ e ∈ E, ∀ b ∈ e.bs, b < 256) (hf : faultC room x = 0) :
    Calls Try.prog 33 #[.pointer (some ⟨y, 0, none⟩), .int .i64 room, .int .i64 x] w (RCutDone B y R E.length ts room x w) := by
  have hx : 0 < sizeF 1 x ∧ 0 ≤ room ∧ room ≤ 4000 := by
    unfold faultC at hf
    split at hf
    · split at hf
      · omega
      · omega
    · omega
  obtain ⟨hx1, hr0, hr1⟩ := hx
  rcases cut_width.1 hx1 with rfl | rfl
  · exact rcut_11 room h hl hB h8 hr0 hr1
  · exact rcut_15 room h hl hB h8 hr0 hr1
theorem rcut_bad {a : Value} (room x : Int) (w : World) (hf : faultC room x ≠ 0) : Calls Try.prog 33 #[a, .int .i64 room, .int .i64 x] w fun e w' => e = .returned (.tuple #[.agg #[.int .i64 0, .slice none 0 0, .slice none 0 0], .int .i64 (faultC room x)]) ∧ Below w.heap.size w w' := by
  unfold faultC at hf ⊢
  split
  · rename_i h1
    rw [if_pos h1] at hf
    split
    · rename_i h2
      exact rcut_arg room x w (cut_width.1 h1) h2
    · rename_i h2
      rw [if_neg h2] at hf
      exact absurd rfl hf
  · rename_i h1
    have h2 := fun h => h1 (cut_width.2 h)
    exact rcut_kind room x w (fun h => h2 (.inl h)) (fun h => h2 (.inr h))
end
/-- both queues, by one list -/
structure CB (w : World) (p y B : Nat) (ts : List Txt) (E : List Ent) : Prop where
  s : QS B p 20000 w E.length ts
  r : RQ w y B 20000 E
  hy : B ≤ y
  hB : B ≤ w.heap.size
  link : tx ts = live 0 E
  b8 : ∀ e ∈ E, ∀ b ∈ e.bs, b < 256
/-- two pieces that hold the same -/
structure PSame (w : World) (A : Option Addr) (n : Nat) (D : Option Addr) (m : Nat) (A2 D2 : Option Addr) (L M : List RowB) (l : List Nat) : Prop where
  hL : L.length = n
  hM : M.length = n
  hn : n ≤ 1000
  s1 : RSrc w A L
  s2 : RSrc w A2 M
  te : texts L = texts M
  hl : l.length = m
  hm : m ≤ 1000
  i1 : SlAt 0 37 w D (u64v l)
  i2 : SlAt 0 37 w D2 (u64v l)
section
variable {w v : World} {y B p : Nat} {ts : List Txt} {E : List Ent} {A D A2 D2 : Option Addr} {n m : Nat} {L M : List RowB} {l : List Nat}
theorem CB.qb (h : CB w p y B ts E) : QB w p y B 20000 ts E := ⟨h.s.q, h.r, h.hy, h.hB, h.link, by decide, by decide, h.s.small, h.s.many, h.b8⟩
theorem CB.later (h : CB w p y B ts E) (hb : Below w.heap.size w v) : CB v p y B ts E := ⟨h.s.later hb, h.r.later hb, h.hy, Nat.le_trans h.hB hb.size, h.link, h.b8⟩
theorem PSame.later (h : PSame w A n D m A2 D2 L M l) (hb : Below w.heap.size w v) : PSame v A n D m A2 D2 L M l := { h with s1 := h.s1.later hb, s2 := h.s2.later hb, i1 := h.i1.later hb, i2 := h.i2.later hb }
theorem PSame.none (w : World) : PSame w none 0 none 0 none none [] [] [] := ⟨rfl, rfl, by omega, fun h => absurd h (by simp), fun h => absurd h (by simp), rfl, rfl, by omega, fun h => absurd rfl h, fun h => absurd rfl h⟩
set_option maxRecDepth 100000 in
set_option maxHeartbeats 3200000 in
theorem csame_any (fi : Int) (c dc c2 dc2 : Nat) (h : PSame w A n D m A2 D2 L M l) :
    Calls Try.prog 34 #[.agg #[.int .i64 fi, .slice A n c, .slice D m dc], .agg #[.int .i64 fi, .slice A2 n c2, .slice D2 m dc2]] w fun e w' => e = .returned (.bool true) ∧ Below w.heap.size w w' := by
  have hba := bl_alloc (Below.refl w.heap.size w) (.cells #[.int .i64 fi, .slice A n c, .slice D m dc] 58)
  have hbb := bl_alloc hba (.cells #[.int .i64 fi, .slice A2 n c2, .slice D2 m dc2] 61)
  have HBB := Lib.hid hbb
  have HRA := Lib.hid ((Row.made w 58 #[.int .i64 fi, .slice A n c, .slice D m dc]).more (.cells #[.int .i64 fi, .slice A2 n c2, .slice D2 m dc2] 61))
  have hrb := Row.made (w.alloc (.cells #[.int .i64 fi, .slice A n c, .slice D m dc] 58)) 61 #[.int .i64 fi, .slice A2 n c2, .slice D2 m dc2]
  rw [show (w.alloc (.cells #[.int .i64 fi, .slice A n c, .slice D m dc] 58)).heap.size = w.heap.size + 1 by simp] at hrb
  have HRB := Lib.hid hrb
  have H := Lib.hid (h.later hbb)
  have HSF := Lib.hid (fun (W : World) (hp : PSame W A n D m A2 D2 L M l) => (by
    have h9 := samef_any n n c c2 W hp.hL hp.hM (by have := hp.hn; omega) hp.s1 hp.s2
    rw [decide_eq_true hp.te] at h9
    exact h9 : Calls Try.prog 87 #[.slice A n c, .slice A2 n c2] W (SameAns true W)))
  have hm := h.hm
  have hl := h.hl
  clear h hba hbb hrb
  go_enter Try.func34, Try.ntmps34
  go_upto_region 1 with fail
  generalize hW : (w.alloc (.cells #[.int .i64 fi, .slice A n c, .slice D m dc] 58)).alloc (.cells #[.int .i64 fi, .slice A2 n c2, .slice D2 m dc2] 61) = W2 at *
  clear hW
  have d0 := HRA.out.read (i := 0) (x := .int .i64 fi) rfl
  have d1 := HRA.out.read (i := 1) (x := .slice A n c) rfl
  have d2 := HRA.out.read (i := 2) (x := .slice D m dc) rfl
  have e0 := HRB.out.read (i := 0) (x := .int .i64 fi) rfl
  have e1 := HRB.out.read (i := 1) (x := .slice A2 n c2) rfl
  have e2 := HRB.out.read (i := 2) (x := .slice D2 m dc2) rfl
  go_wp2_with (go_at_call 87; (with_reducible refine (HSF.out _ H.out).mono ?_); rintro e w3 ⟨rfl, hb3⟩; (
    have HB3 := Lib.hid hb3
    clear d0 d1 d2 e0 e1 e2
    have d2 := (HRA.out.later hb3).read (i := 2) (x := .slice D m dc) rfl
    have e2 := (HRB.out.later hb3).read (i := 2) (x := .slice D2 m dc2) rfl
    clear hb3))
  clear d2 e2
  go_loopw [5] (fun s5 wr => ∃ i : Nat, i ≤ m ∧ s5 = .int .i64 i ∧ Hid (Below W2.heap.size W2 wr)) (fun s5 _ => m - (intOf s5).toNat)
  case atStart => exact ⟨0, by omega, rfl, HB3⟩
  case round =>
    obtain ⟨i, hi, rfl, HB⟩ := hrel
    have d2 := (HRA.out.later HB.out).read (i := 2) (x := .slice D m dc) rfl
    have e2 := (HRB.out.later HB.out).read (i := 2) (x := .slice D2 m dc2) rfl
    by_cases hlt : i < m
    · have h1 : (i : Int) < m := by omega
      have h0 : (0 : Int) ≤ i := by omega
      obtain ⟨v, hv⟩ : ∃ v, l[i]? = some v := ⟨_, List.getElem?_eq_getElem (by omega)⟩
      have hvv : (u64v l)[i]? = some (.int .u64 (v : Int)) := by unfold u64v; rw [List.getElem?_map, hv]; rfl
      obtain ⟨g1, rfl, z1⟩ := (H.out.i1.later HB.out).cell hvv
      obtain ⟨g2, rfl, z2⟩ := (H.out.i2.later HB.out).cell hvv
      have HLT := Lib.hid hlt
      clear hv hvv hlt
      go_wp2
      go_quiet (fail)
      go_wp2
      go_roundw
      case rel => exact ⟨i + 1, by have := HLT.out; omega, by go_num, Lib.hid (below_drewN HB.out _)⟩
      case measure => have := HLT.out; simp [intOf]; omega
    · have h1 : ¬ (i : Int) < m := by omega
      clear hlt
      go_wp2
      go_ret
      exact ⟨rfl, bl_step HBB.out HB.out⟩
end
end Go.Proofs.Ytbcjfdhphpckfaa
namespace Go.Proofs.Ytbcjfdhphpckfaa
open Go.RowKit

section
variable {w v : World} {y B p : Nat} {ts : List Txt} {E : List Ent}
theorem QS.kr {X : TypeId → Prop} {R : Int} {last : Nat} (h : QS B p R w last ts) (hk : KR X B w v) (h1 : ¬ X 51) (h2 : ¬ X 177) (h3 : ¬ X 5) : QS B p R v last ts := h.with (h.q.kr hk h1 h2 h3)
theorem kr_q (hB : B ≤ w.heap.size) (ho : QOnly B w v) : KR XQ B w v := (ho.kr hB).weaker (fun t e => by unfold XQ; rcases e with e | e; exact .inl e; exact .inr (.inl e))
theorem kr_34 (hk : KR X34 B w v) : KR XQ B w v := hk.weaker (fun t e => by unfold X34 at e; unfold XQ; rcases e with e | e <;> simp [e])
theorem cb_push (A : Option Addr) (l : List Nat) (c : Nat) (h : CB w p y B ts E) (hE : E.length ≤ 190) (hll : l.length ≤ 9223372036854775807) (hl8 : ∀ b ∈ l, b < 256) (hsrc : ∀ W, KR XQ B w W → QSrcB W A (qbts l)) :
    Calls Try.prog 15 #[.pointer (some ⟨p, 0, none⟩), .slice A l.length c] w fun e w1 => (∃ (nid : Nat) (er : Int), e = .returned (.tuple #[.int .u64 nid, .int .i64 er])) ∧ KR XQ B w w1 ∧
      Calls Try.prog 16 #[.pointer (some ⟨y, 0, none⟩), .slice A l.length c] w1 fun e w3 => (∃ (nid : Nat) (er : Int), e = .returned (.tuple #[.int .u64 nid, .int .i64 er])) ∧ KR XQ B w1 w3 ∧ ∃ ts' E', CB w3 p y B ts' E' ∧ E'.length ≤ E.length + 1 := by
  have hids := h.qb.ids
  have hby := h.qb.bytes
  have hsm := h.s.small
  have hmn := h.s.many
  refine (h.s.push A l c (by decide) (by decide) hll (by omega) hl8 (fun W ho => hsrc W (kr_q h.hB ho))).mono ?_
  rintro e w1 ⟨nid, er, rfl, ho, hor⟩
  have hk1 := kr_q h.hB ho
  have hr1 := h.r.byQ ho
  have hB1 := Nat.le_trans h.hB ho.size
  refine ⟨⟨nid, er, rfl⟩, hk1, ?_⟩
  rcases hor with ⟨rfl, rfl, k1, k2, k3, k4, t, t1, t2, t3, hq1⟩ | ⟨hne, rfl, hq1, hwhy⟩
  · refine (rq_push A l l.length c hr1 rfl k2 k1 (by omega) (by omega) hE h.hy hB1 (hsrc w1 hk1)).mono ?_
    rintro e w3 ⟨rfl, ⟨g, cap, hr3⟩, hk⟩
    refine ⟨⟨_, _, rfl⟩, hk.weaker (fun t e => by unfold XQ; rcases e with e | e | e | e <;> simp [e]), ts ++ [t], E ++ [⟨g, cap, l, 0, false⟩], ⟨?_, hr3, h.hy, Nat.le_trans hB1 hk.size, ?_, b8_app h.b8 hl8⟩, by simp⟩
    · rw [List.length_append]
      exact hq1.kr hk (by decide) (by decide) (by decide)
    · rw [live_snoc, ← h.link]
      unfold tx
      rw [List.map_append, List.map_singleton, t1, t2, t3.1, Nat.zero_add]
  · have hfin : ∀ w3, Below w1.heap.size w1 w3 → KR XQ B w1 w3 ∧ ∃ ts' E', CB w3 p y B ts' E' ∧ E'.length ≤ E.length + 1 := fun w3 hb3 =>
      ⟨KR.of_below hB1 hb3, ts, E, ⟨hq1.later hb3, hr1.later hb3, h.hy, Nat.le_trans hB1 hb3.size, h.link, h.b8⟩, by omega⟩
    by_cases c0 : l.length = 0
    · rw [c0]
      refine (rq_push_arg A c w1).mono ?_
      rintro e w3 ⟨rfl, hb3⟩
      exact ⟨⟨0, 1, rfl⟩, hfin w3 hb3⟩
    · by_cases c1 : 1000 < l.length
      · refine (rq_push_long A l.length c w1 c1).mono ?_
        rintro e w3 ⟨rfl, hb3⟩
        exact ⟨⟨0, 2, rfl⟩, hfin w3 hb3⟩
      · by_cases c2 : 64 ≤ ts.length
        · refine (rq_push_many A l.length c hr1 (by omega) (by omega) (by omega)).mono ?_
          rintro e w3 ⟨rfl, hb3⟩
          exact ⟨⟨0, 5, rfl⟩, hfin w3 hb3⟩
        · refine (rq_push_full A l.length c hr1 (by omega) (by omega) (by omega) (by rcases hwhy with q | q | q | q <;> omega)).mono ?_
          rintro e w3 ⟨rfl, hb3⟩
          exact ⟨⟨0, 5, rfl⟩, hfin w3 hb3⟩
theorem cb_fits (room x : Int) (h : CB w p y B ts E) : Calls Try.prog 31 #[.pointer (some ⟨p, 0, none⟩), .int .i64 room, .int .i64 x] w fun e w1 => e = .returned (.bool (fitsC ts room x)) ∧ KR XQ B w w1 ∧ CB w1 p y B ts E := by
  refine (cfits_any h.s room x (by decide)).mono ?_
  rintro e w1 ⟨rfl, hq, ho⟩
  exact ⟨rfl, kr_q h.hB ho, ⟨hq, h.r.byQ ho, h.hy, Nat.le_trans h.hB ho.size, h.link, h.b8⟩⟩
theorem restT_tx {k : Nat} {n : Int} {ts' : List Txt} (h : RestT ts k n ts') : tx ts' = txR ts k n := by
  rcases h with ⟨h1, rfl⟩ | ⟨h1, t, t', h2, h3, h4, h5, rfl⟩
  · rw [txR_zero h1]
  · obtain ⟨q, rfl⟩ : ∃ q : Nat, n = q := ⟨n.toNat, by omega⟩
    rw [txR_some h2 (by omega)]
    show (t'.id, t'.bs, t'.bg) :: tx (ts.drop (k + 1)) = _
    rw [h3, h4, h5.1]
    simp
theorem fitsC_bad {room x : Int} (hf : faultC room x ≠ 0) : fitsC ts room x = false := by unfold fitsC; simp [hf]
theorem fitsC_bld {room x n : Int} {k : Nat} (hf : faultC room x = 0) (hB : Bld room x (lenT ts) k n) (hp : ∀ t ∈ ts, 0 < t.bs.length) : fitsC ts room x = decide (0 < k ∨ 0 < n) := by
  unfold fitsC
  simp only [hf, true_and]
  exact decide_eq_decide.2 (hB.fit hp).symm
theorem idsv_u (l : List Nat) : idsV l = u64v l := rfl
theorem newids_at {m : Nat} {D : Option Addr} {k c : Nat} {l : List Nat} (h : NewIds m w (.slice D k c) l) (hl : l.length = k) : SlAt 0 37 w D (u64v l) := by
  have h1 : w.ownsRow m 37 1 (.slice D k c) k (u64v l) := by
    unfold NewIds at h
    rw [hl] at h
    exact h
  intro hne
  obtain ⟨g, cs, e1, e2, e3, e4⟩ := own_at h1 hne
  exact ⟨g, cs, e1, Nat.zero_le _, e3, e4⟩
theorem cb_build (room x : Int) (h : CB w p y B ts E) : Calls Try.prog 32 #[.pointer (some ⟨p, 0, none⟩), .int .i64 room, .int .i64 x] w fun e w1 => ∃ (er fi : Int) (A : Option Addr) (n : Nat) (D : Option Addr) (m : Nat), e = .returned (.tuple #[.agg #[.int .i64 fi, .slice A n n, .slice D m m], .int .i64 er]) ∧ (er == 0) = fitsC ts room x ∧ KR XQ B w w1 ∧
    ∀ u, Below w1.heap.size w1 u → Calls Try.prog 33 #[.pointer (some ⟨y, 0, none⟩), .int .i64 room, .int .i64 x] u fun e w3 => ∃ (A2 : Option Addr) (c2 : Nat) (D2 : Option Addr) (dc2 : Nat), e = .returned (.tuple #[.agg #[.int .i64 fi, .slice A2 n c2, .slice D2 m dc2], .int .i64 er]) ∧ KR XQ B u w3 ∧
      (∃ ts' E', CB w3 p y B ts' E' ∧ E'.length = E.length) ∧ ∃ L M l, PSame w3 A n D m A2 D2 L M l := by
  by_cases hf : faultC room x = 0
  · have hp := fun t ht => (h.s.bytes t ht).1
    refine (h.s.build room x (by decide) hf).mono ?_
    rintro e w1 ⟨k, n, ts', hB1, hR1, hq1, ho1, hres⟩
    have hk1 := kr_q h.hB ho1
    have hfit := fitsC_bld hf hB1 hp
    have hdoc := fun (u : World) (hbu : Below w1.heap.size w1 u) => rcut_any room x ((h.r.byQ ho1).later hbu) h.link (Nat.le_trans (Nat.le_trans h.hB ho1.size) hbu.size) h.b8 hf
    have hkk : k ≤ 64 := by have := hB1.le; rw [length_lenT] at this; have := h.s.many; omega
    have hfinC : ∀ u, Below w1.heap.size w1 u → ∀ w3 E', RQ w3 y B 20000 E' → KR X34 B u w3 → live 0 E' = txR ts k n → E'.length = E.length → (∀ e ∈ E', ∀ b ∈ e.bs, b < 256) → CB w3 p y B ts' E' := fun u hbu w3 E' hr3 hk3 hl3 hm3 h83 =>
      ⟨by rw [hm3]; exact (hq1.later hbu).kr hk3 (by unfold X34; decide) (by unfold X34; decide) (by unfold X34; decide), hr3, h.hy, Nat.le_trans (Nat.le_trans (Nat.le_trans h.hB ho1.size) hbu.size) hk3.size, by rw [restT_tx hR1, hl3], h83⟩
    rcases hres with ⟨h1, h2, rfl⟩ | ⟨hkn, A, D, L, rfl, htx, ⟨c, hrows⟩, dc, hids⟩
    · have hkn : ¬ (0 < k ∨ 0 < n) := by omega
      refine ⟨4, 0, none, 0, none, 0, rfl, by rw [hfit, decide_eq_false hkn]; rfl, hk1, fun u hbu => (hdoc u hbu).mono ?_⟩
      rintro e w3 ⟨k', n', E', hB3, hr3, hm3, h83, hl3, hk3, hres3⟩
      obtain ⟨rfl, rfl⟩ := hB1.only hB3 (lenT_pos hp)
      rcases hres3 with ⟨_, _, rfl⟩ | ⟨hkn3, _⟩
      · exact ⟨none, 0, none, 0, rfl, kr_34 hk3, ⟨ts', E', hfinC u hbu w3 E' hr3 hk3 hl3 hm3 h83, hm3⟩, [], [], [], PSame.none w3⟩
      · exact absurd hkn3 hkn
    · refine ⟨0, fiT ts n, A, L.length, D, k, rfl, by rw [hfit, decide_eq_true hkn]; rfl, hk1, fun u hbu => (hdoc u hbu).mono ?_⟩
      rintro e w3 ⟨k', n', E', hB3, hr3, hm3, h83, hl3, hk3, hres3⟩
      obtain ⟨rfl, rfl⟩ := hB1.only hB3 (lenT_pos hp)
      rcases hres3 with ⟨h1, h2, rfl⟩ | ⟨_, A2, c2, D2, dc2, M, rfl, htx2, hs2, hM, hids2⟩
      · exact absurd hkn (by omega)
      · have hlen : M.length = L.length := by
          have h1 := congrArg List.length (htx2.trans htx.symm)
          rw [length_texts, length_texts] at h1
          exact h1
        have hil : ((ts.take k).map Txt.id).length = k := by
          have := hB1.le
          rw [length_lenT] at this
          rw [List.length_map, List.length_take]
          omega
        refine ⟨A2, c2, D2, dc2, by rw [hlen], kr_34 hk3, ⟨ts', E', hfinC u hbu w3 E' hr3 hk3 hl3 hm3 h83, hm3⟩, L, M, (ts.take k).map Txt.id, rfl, hlen, by omega, ?_, hs2, htx.trans htx2.symm, hil, by omega, ?_, newids_at hids2 hil⟩
        · have hrows3 : NewRows w.heap.size w3 (.slice A L.length c) L := ⟨hk3.own (hrows.later hbu).1 (by unfold X34; decide), fun r hr => by
            obtain ⟨g, z1, z2, ⟨cs, z3, z4⟩, z5⟩ := (hrows.later hbu).2 r hr
            exact ⟨g, z1, z2, ⟨cs, hk3.rows _ _ _ z3 (by unfold X34; decide), z4⟩, z5⟩⟩
          exact hrows3.src
        · have hids3 : NewIds w.heap.size w3 (.slice D k dc) ((ts.take k).map Txt.id) := hk3.own (hids.later hbu) (by unfold X34; decide)
          exact newids_at hids3 hil
  · refine (cbuild_bad h.s room x (by decide) hf).mono ?_
    rintro e w1 ⟨rfl, hq1, ho1⟩
    have hk1 := kr_q h.hB ho1
    refine ⟨faultC room x, 0, none, 0, none, 0, rfl, by rw [fitsC_bad hf]; simpa using hf, hk1, fun u hbu => (rcut_bad room x u hf).mono ?_⟩
    rintro e w3 ⟨rfl, hb3⟩
    have hBB := Nat.le_trans (Nat.le_trans h.hB ho1.size) hbu.size
    exact ⟨none, 0, none, 0, rfl, KR.of_below hBB hb3, ⟨ts, E, ⟨(hq1.later hbu).later hb3, ((h.r.byQ ho1).later hbu).later hb3, h.hy, Nat.le_trans hBB hb3.size, h.link, h.b8⟩, rfl⟩, [], [], [], PSame.none w3⟩
theorem cb_bytes (h : CB w p y B ts E) : Calls Try.prog 26 #[.pointer (some ⟨p, 0, none⟩)] w fun e w1 => e = .returned (.int .i64 (bytesF ts : Nat)) ∧ Below w.heap.size w w1 ∧
    Calls Try.prog 27 #[.pointer (some ⟨y, 0, none⟩)] w1 fun e w3 => e = .returned (.int .i64 (bytesF ts : Nat)) ∧ Below w1.heap.size w1 w3 := by
  refine (qbytes_any h.s.q (by decide) (by have := h.s.small; omega)).mono ?_
  rintro e w1 ⟨rfl, hb1⟩
  refine ⟨rfl, hb1, (rq_bytes (h.r.later hb1)).mono ?_⟩
  rintro e w3 ⟨rfl, hb3⟩
  exact ⟨by rw [h.qb.bytes], hb3⟩
end
end Go.Proofs.Ytbcjfdhphpckfaa
namespace Go.Proofs.Ytbcjfdhphpckfaa
open Go.RowKit

/-- a call: bytes, two numbers -/
structure OpR where
  r : RowB
  a : Int
  b : Int
/-- where calls lie -/
def BSrc13 (w : World) (A : Option Addr) (l : List OpR) : Prop :=
  0 < l.length → ∃ b off, A = some ⟨b, off, none⟩ ∧ ∀ k o, l[k]? = some o → w.cell? ⟨b, off + k * 3, none⟩ = some o.r.v ∧ w.cell? ⟨b, off + k * 3 + 1, none⟩ = some (.int .i64 o.a) ∧ w.cell? ⟨b, off + k * 3 + 2, none⟩ = some (.int .i64 o.b) ∧ o.r.ok w
end Go.Proofs.Ytbcjfdhphpckfaa
