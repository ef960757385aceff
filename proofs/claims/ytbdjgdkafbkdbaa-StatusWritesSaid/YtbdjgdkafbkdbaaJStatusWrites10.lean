/-
  status: numbers are put, one behind the other. status: are lists of misses equal?. status: are statuses equal? the code's and the document's. status: a miss is written, and a status. status: a status is written: its bytes, or why it has none.
-/
import Derived.Test.YtbdjgdkafbkdbaaJStatusWrites08
import Derived.Test.YtbdjgdkafbkdbaaJStatusWrites01
import Derived.Test.YtbdjgdkafbkdbaaJStatusWrites07
import Derived.Deep.RegionHeld3
namespace Go.Proofs.Ytbdjgdkafbkdbaa
open Go.RowKit

/-- below B nothing has changed, and rows of other types than a writer's stay -/
def KeepW (B : Nat) (w v : World) : Prop := Below B w v ∧ w.heap.size ≤ v.heap.size ∧ ∀ (g : Nat) (t : TypeId) (cs : Array Value), t ≠ 5 → t ≠ 213 → Row w g t cs → Row v g t cs
section
variable {B : Nat} {w v u : World}
theorem KeepW.refl (B : Nat) (w : World) : KeepW B w w := ⟨Below.refl _ _, Nat.le_refl _, fun _ _ _ _ _ h => h⟩
theorem KeepW.trans (h : KeepW B w v) (k : KeepW B v u) : KeepW B w u := ⟨h.1.trans k.1, Nat.le_trans h.2.1 k.2.1, fun g t cs h1 h2 hr => k.2.2 g t cs h1 h2 (h.2.2 g t cs h1 h2 hr)⟩
theorem KeepW.of_below (h : Below w.heap.size w v) (hB : B ≤ w.heap.size) : KeepW B w v := ⟨h.mono hB, h.size, fun _ _ _ _ _ hr => hr.later h⟩
theorem KeepW.alloc (h : KeepW B w v) (hB : B ≤ w.heap.size) (o : Obj) : KeepW B w (v.alloc o) := h.trans (KeepW.of_below (bl_alloc (Below.refl _ _) o) (Nat.le_trans hB h.2.1))
theorem KeepW.row (h : KeepW B w v) {g : Nat} {t : TypeId} {cs : Array Value} (hr : Row w g t cs) (h1 : t ≠ 5) (h2 : t ≠ 213) : Row v g t cs := h.2.2 g t cs h1 h2 hr
end
theorem wrote_keep {B : Nat} {w v : World} {p : Nat} {sv : Value} {bl : List Bool} (hr : WRep B w p sv bl) (h : Only (fun k => k = p ∨ sv.ownBlock = some k) w v) : KeepW B w v := by
  refine ⟨wrote_below hr h, h.size, fun g t cs h1 h2 hg => hg.only h fun hS => ?_⟩
  rcases hS with hS | hS
  · exact hg.apart hr.2.1 h2 hS
  · exact own_apart hr.2.2 hg (Ne.symm h1) hS
def intsV (L : List Nat) : List Value := L.map fun v : Nat => .int .i64 v
theorem intsV_at {L : List Nat} {k v : Nat} (h : L[k]? = some v) : (intsV L).toArray[k]? = some (.int .i64 v) := by simp [intsV, h]
def putsN (L : List Nat) (n : Nat) : List (Nat × Nat) := L.map fun v => (v, n)
theorem putsN_take {L : List Nat} {k v n : Nat} (h : L[k]? = some v) : putsN (L.take (k + 1)) n = putsN (L.take k) n ++ [(v, n)] := by
  obtain ⟨h1, h2⟩ := List.getElem?_eq_some_iff.1 h
  unfold putsN
  rw [List.take_succ_eq_append_getElem h1, List.map_append, h2]
  rfl
theorem len_putsN (L : List Nat) (n : Nat) : (bitsP (putsN L n)).length = L.length * n := by
  induction L with
  | nil => simp [putsN, bitsP]
  | cons a t ih =>
    have e : bitsP (putsN (a :: t) n) = unval a n ++ bitsP (putsN t n) := rfl
    rw [e, List.length_append, length_unval, ih, List.length_cons, Nat.add_mul]
    omega
set_option maxRecDepth 100000 in
set_option maxHeartbeats 1600000 in
theorem sput_any {B p g : Nat} {kp : List (Nat × Nat)} {L : List Nat} (n ln cap : Nat) (w : World) (hr : ∃ sv, WRep B w p sv (bitsP kp)) (hg : Row w g 3 (intsV L).toArray) (hL : L.length = ln) (hln : ln ≤ 3) (hn : n ≤ 16) (hv : ∀ v ∈ L, v < 2 ^ n) (hl : (bitsP kp).length ≤ 60000) :
    Calls Try.prog 98 #[.pointer (some ⟨p, 0, none⟩), .int .i64 n, .slice (some ⟨g, 0, none⟩) ln cap] w fun e w' => e = .returned (.tuple #[]) ∧ (∃ sv, WRep B w' p sv (bitsP (kp ++ putsN L n))) ∧ KeepW B w w' := by
  have HR := Lib.hid hr
  have HG := Lib.hid hg
  have HL := Lib.hid hL
  have HV := Lib.hid hv
  have HLL := Lib.hid hl
  clear hr hg hL hv hl
  go_enter Try.func98, Try.ntmps98
  go_wp2
  go_loopw [10] (fun i wr => ∃ k : Nat, k ≤ ln ∧ i = .int .i64 k ∧ Hid ((∃ sv, WRep B wr p sv (bitsP (kp ++ putsN (L.take k) n))) ∧ KeepW B w wr)) (fun i _ => ln - (intOf i).toNat)
  case atStart => exact ⟨0, by omega, rfl, Lib.hid ⟨by simpa [putsN] using HR.out, KeepW.refl _ _⟩⟩
  case round =>
    obtain ⟨k, hk, rfl, HK⟩ := hrel
    by_cases hlt : k < ln
    · obtain ⟨v, hx⟩ : ∃ r, L[k]? = some r := ⟨_, List.getElem?_eq_getElem (by rw [HL.out]; exact hlt)⟩
      have RG := HK.out.2.row HG.out (by decide) (by decide)
      have c0 : wr.cell? ⟨g, k, none⟩ = some (.int .i64 v) := RG.read (intsV_at hx)
      have hv1 : v < 2 ^ n := HV.out v (List.mem_of_getElem? hx)
      have hv2 : v < 65536 := Nat.lt_of_lt_of_le hv1 (Nat.pow_le_pow_right (by decide) hn)
      obtain ⟨⟨sv, hw⟩, hkp⟩ := HK.out
      have hfit : (bitsP (kp ++ putsN (L.take k) n)).length + n ≤ 65536 := by
        have e : (L.take k).length = k := by rw [List.length_take, HL.out]; omega
        rw [bitsP_append, List.length_append, len_putsN, e]
        have h1 := HLL.out
        have h2 : k * n ≤ 3 * 16 := Nat.mul_le_mul (by omega) hn
        omega
      have HP := Lib.hid (put_any v n wr hw (by omega) hv1 hfit (by omega))
      have HW := Lib.hid hw
      have HKP := Lib.hid hkp
      have HX := Lib.hid (putsN_take (n := n) hx)
      have hwr : IntKind.u64.wrap (v : Int) = (v : Int) := by rw [IntKind.wrap_u64]; omega
      have hkI : (k : Int) < (ln : Int) := by omega
      clear hx RG hw hkp hfit hv1
      go_wp2_with (go_at_call 145; refine HP.out.mono ?_; rintro e w1 ⟨rfl, sv', h1, h2, h3⟩)
      go_roundw
      case rel => exact ⟨k + 1, by omega, by go_num, Lib.hid ⟨⟨sv', by rw [HX.out, ← List.append_assoc, bitsP_snoc]; exact h1⟩, HKP.out.trans (wrote_keep HW.out h3)⟩⟩
      case measure => simp [intOf]; omega
    · have hkn : k = ln := by omega
      subst hkn
      go_wp2
      refine bodyPost_end (results_none rfl _ _ _) rfl ?_
      have h := HK.out
      rw [List.take_of_length_le (by rw [HL.out]; exact Nat.le_refl _)] at h
      exact ⟨rfl, h⟩
end Go.Proofs.Ytbdjgdkafbkdbaa
namespace Go.Proofs.Ytbdjgdkafbkdbaa
open Go.RowKit

def eqM (a b : MissM) : Bool := (a.sn == b.sn) && (a.part == b.part) && (a.fr == b.fr) && (a.to == b.to)
theorem eqM_iff (a b : MissM) : eqM a b = true ↔ a = b := by
  obtain ⟨a1, a2, a3, a4⟩ := a
  obtain ⟨b1, b2, b3, b4⟩ := b
  simp [eqM, and_assoc]
def eqMs : List MissM → List MissM → Bool
  | [], [] => true
  | a :: l, b :: m => eqM a b && eqMs l m
  | _, _ => false
set_option maxRecDepth 100000 in
set_option maxHeartbeats 1600000 in
theorem sequal_loop {A B : Option Addr} {L M : List MissM} (n c d : Nat) (w : World) (hL : L.length = n) (hM : M.length = n) (hn : n ≤ 9223372036854775807) (hs : MSrc w A L) (ht : MSrc w B M) :
    Calls Try.prog 107 #[.slice A n c, .slice B n d] w fun e w' => e = .returned (.bool (eqMs L M)) ∧ Below w.heap.size w w' := by
  have HS := Lib.hid hs
  have HT := Lib.hid ht
  have HL := Lib.hid hL
  have HM := Lib.hid hM
  clear hs ht hL hM
  go_enter Try.func107, Try.ntmps107
  go_wp2
  go_loopw [13] (fun i wr => ∃ k : Nat, k ≤ n ∧ i = .int .i64 k ∧ Hid (eqMs L M = eqMs (L.drop k) (M.drop k)) ∧ Hid (Below w.heap.size w wr)) (fun i _ => n - (intOf i).toNat)
  case atStart => exact ⟨0, by omega, rfl, Lib.hid (by simp), Lib.hid (Below.refl _ _)⟩
  case round =>
    obtain ⟨k, hk, rfl, HK, HB⟩ := hrel
    by_cases hlt : k < n
    · obtain ⟨ab, ao, rfl, hc⟩ := HS.out (by rw [HL.out]; omega)
      obtain ⟨bb, bo, rfl, hd⟩ := HT.out (by rw [HM.out]; omega)
      obtain ⟨⟨sn, part, fr, to⟩, hr⟩ : ∃ r, L[k]? = some r := ⟨_, List.getElem?_eq_getElem (by rw [HL.out]; exact hlt)⟩
      obtain ⟨⟨sn', part', fr', to'⟩, hr'⟩ : ∃ r, M[k]? = some r := ⟨_, List.getElem?_eq_getElem (by rw [HM.out]; exact hlt)⟩
      obtain ⟨e0, e1, e2, e3⟩ := hc k _ hr
      obtain ⟨e4, e5, e6, e7⟩ := hd k _ hr'
      have f0 := cell_below HB.out e0
      have f1 := cell_below HB.out e1
      have f2 := cell_below HB.out e2
      have f3 := cell_below HB.out e3
      have f4 := cell_below HB.out e4
      have f5 := cell_below HB.out e5
      have f6 := cell_below HB.out e6
      have f7 := cell_below HB.out e7
      have HD := Lib.hid (show L.drop k = ⟨sn, part, fr, to⟩ :: L.drop (k + 1) by
        obtain ⟨h1, h2⟩ := List.getElem?_eq_some_iff.1 hr
        rw [List.drop_eq_getElem_cons h1, h2])
      have HE := Lib.hid (show M.drop k = ⟨sn', part', fr', to'⟩ :: M.drop (k + 1) by
        obtain ⟨h1, h2⟩ := List.getElem?_eq_some_iff.1 hr'
        rw [List.drop_eq_getElem_cons h1, h2])
      have hkI : (k : Int) < (n : Int) := by omega
      have hk0 : (0 : Int) ≤ (k : Int) := by omega
      clear hc hd hr hr' e0 e1 e2 e3 e4 e5 e6 e7
      simp only at f0 f1 f2 f3 f4 f5 f6 f7
      by_cases hq : eqM ⟨sn, part, fr, to⟩ ⟨sn', part', fr', to'⟩ = true
      · have h := (eqM_iff _ _).1 hq
        injection h with h1 h2 h3 h4
        subst h1 h2 h3 h4
        go_wp2_with fail
        go_quiet (fail)
        go_wp2
        exact ⟨⟨k + 1, by omega, by go_num, Lib.hid (by rw [HK.out, HD.out, HE.out]; simp [eqMs, eqM]), Lib.hid (below_drewN HB.out _)⟩, by simp [intOf]; omega⟩
      · have hq' : eqM ⟨sn, part, fr, to⟩ ⟨sn', part', fr', to'⟩ = false := by simpa using hq
        have HZ := Lib.hid (show eqMs L M = false by rw [HK.out, HD.out, HE.out]; simp [eqMs, hq'])
        have hcase : (sn ≠ sn') ∨ (sn = sn' ∧ part ≠ part') ∨ (sn = sn' ∧ part = part' ∧ fr ≠ fr') ∨ (sn = sn' ∧ part = part' ∧ fr = fr' ∧ to ≠ to') := by
          by_cases h1 : sn = sn'
          · by_cases h2 : part = part'
            · by_cases h3 : fr = fr'
              · by_cases h4 : to = to'
                · exact absurd ((eqM_iff _ _).2 (by rw [h1, h2, h3, h4])) hq
                · exact .inr (.inr (.inr ⟨h1, h2, h3, h4⟩))
              · exact .inr (.inr (.inl ⟨h1, h2, h3⟩))
            · exact .inr (.inl ⟨h1, h2⟩)
          · exact .inl h1
        clear hq hq' HK HD HE
        rcases hcase with h1 | ⟨rfl, h2⟩ | ⟨rfl, rfl, h3⟩ | ⟨rfl, rfl, rfl, h4⟩
        all_goals
          go_wp2_with fail
          go_quiet (fail)
          go_wp2
          go_ret
          exact ⟨ret_bool HZ.out.symm, below_drewN HB.out _⟩
    · have hkn : k = n := by omega
      subst hkn
      go_wp2
      go_ret
      exact ⟨ret_bool (by rw [HK.out, List.drop_of_length_le (by rw [HL.out]; exact Nat.le_refl _), List.drop_of_length_le (by rw [HM.out]; exact Nat.le_refl _)]; rfl), HB.out⟩
set_option maxRecDepth 100000 in
set_option maxHeartbeats 800000 in
theorem sequal_no {A B : Option Addr} (n m c d : Nat) (w : World) (h : n ≠ m) :
    Calls Try.prog 107 #[.slice A n c, .slice B m d] w fun e w' => e = .returned (.bool false) ∧ Below w.heap.size w w' := by
  have h' : ¬ ((n : Int) = (m : Int)) := by omega
  have h2 : ((n : Int) != (m : Int)) = true := by simpa using h'
  clear h
  go_enter Try.func107, Try.ntmps107
  go_wp2
  go_ret
  exact ⟨rfl, Below.refl _ _⟩
theorem eqMs_len {L M : List MissM} (h : L.length ≠ M.length) : eqMs L M = false := by
  induction L generalizing M with
  | nil =>
    cases M with
    | nil => exact absurd rfl h
    | cons => rfl
  | cons a t ih =>
    cases M with
    | nil => rfl
    | cons b u =>
      have := ih (M := u) (by simpa using h)
      simp [eqMs, this]
theorem sequal_any {A B : Option Addr} {L M : List MissM} (n m c d : Nat) (w : World) (hL : L.length = n) (hM : M.length = m) (hn : n ≤ 9223372036854775807) (hs : MSrc w A L) (ht : MSrc w B M) :
    Calls Try.prog 107 #[.slice A n c, .slice B m d] w fun e w' => e = .returned (.bool (eqMs L M)) ∧ Below w.heap.size w w' := by
  by_cases h : n = m
  · subst h
    exact sequal_loop n c d w hL hM hn hs ht
  · rw [eqMs_len (by omega)]
    exact sequal_no n m c d w h
end Go.Proofs.Ytbdjgdkafbkdbaa
namespace Go.Proofs.Ytbdjgdkafbkdbaa
open Go.RowKit

theorem eqM_case {sn sn' : Int} {part part' : Bool} {fr fr' to to' : Int} (hq : ¬ eqM ⟨sn, part, fr, to⟩ ⟨sn', part', fr', to'⟩ = true) : (sn ≠ sn') ∨ (sn = sn' ∧ part ≠ part') ∨ (sn = sn' ∧ part = part' ∧ fr ≠ fr') ∨ (sn = sn' ∧ part = part' ∧ fr = fr' ∧ to ≠ to') := by
  by_cases h1 : sn = sn'
  · by_cases h2 : part = part'
    · by_cases h3 : fr = fr'
      · by_cases h4 : to = to'
        · exact absurd ((eqM_iff _ _).2 (by rw [h1, h2, h3, h4])) hq
        · exact .inr (.inr (.inr ⟨h1, h2, h3, h4⟩))
      · exact .inr (.inr (.inl ⟨h1, h2, h3⟩))
    · exact .inr (.inl ⟨h1, h2⟩)
  · exact .inl h1
def eqS (a : Int) (L : List MissM) (b : Int) (M : List MissM) : Bool := (a == b) && eqMs L M
set_option maxRecDepth 100000 in
set_option maxHeartbeats 1600000 in
theorem ssame_any {A B : Option Addr} {L M : List MissM} (a b : Int) (n m c d : Nat) (w : World) (hL : L.length = n) (hM : M.length = m) (hn : n ≤ 9223372036854775807) (hs : MSrc w A L) (ht : MSrc w B M) :
    Calls Try.prog 57 #[.agg #[.int .i64 a, .slice A n c], .agg #[.int .i64 b, .slice B m d]] w fun e w' => e = .returned (.bool (eqS a L b M)) ∧ Below w.heap.size w w' := by
  have HQ := Lib.hid (fun W hb => sequal_any n m c d W hL hM hn (hs.later (v := W) hb) (ht.later hb))
  have HB0 := Lib.hid (bl_alloc (bl_alloc (Below.refl w.heap.size w) (.cells #[.int .i64 a, .slice A n c] 81)) (.cells #[.int .i64 b, .slice B m d] 81))
  clear hs ht hL hM
  unfold eqS
  cases h : (a == b)
  · go_enter Try.func57, Try.ntmps57
    go_wp2_with fail
    go_ret
    exact ⟨rfl, HB0.out⟩
  · rw [Bool.true_and]
    go_enter Try.func57, Try.ntmps57
    go_wp2_with (go_at_call 107; refine (HQ.out _ HB0.out).mono ?_; rintro e w2 ⟨rfl, hb2⟩)
    go_ret
    exact ⟨rfl, bl_step HB0.out hb2⟩
set_option maxRecDepth 100000 in
set_option maxHeartbeats 800000 in
theorem rssame_a {A B : Option Addr} (a b : Int) (n m c d : Nat) (w : World) (h : a ≠ b) :
    Calls Try.prog 58 #[.agg #[.int .i64 a, .slice A n c], .agg #[.int .i64 b, .slice B m d]] w fun e w' => e = .returned (.bool false) ∧ Below w.heap.size w w' := by
  have h2 : (a != b) = true := by simpa using h
  go_enter Try.func58, Try.ntmps58
  go_wp2
  go_ret
  exact ⟨rfl, bl_alloc (bl_alloc (Below.refl w.heap.size w) _) _⟩
set_option maxRecDepth 100000 in
set_option maxHeartbeats 800000 in
theorem rssame_n {A B : Option Addr} (a : Int) (n m c d : Nat) (w : World) (h : n ≠ m) :
    Calls Try.prog 58 #[.agg #[.int .i64 a, .slice A n c], .agg #[.int .i64 a, .slice B m d]] w fun e w' => e = .returned (.bool false) ∧ Below w.heap.size w w' := by
  have h' : ¬ ((n : Int) = (m : Int)) := by omega
  have h2 : ((n : Int) != (m : Int)) = true := by simpa using h'
  clear h
  go_enter Try.func58, Try.ntmps58
  go_wp2
  go_ret
  exact ⟨rfl, bl_alloc (bl_alloc (Below.refl w.heap.size w) _) _⟩
set_option maxRecDepth 100000 in
set_option maxHeartbeats 1600000 in
theorem rssame_loop {A B : Option Addr} {L M : List MissM} (a : Int) (n c d : Nat) (w : World) (hL : L.length = n) (hM : M.length = n) (hn : n ≤ 9223372036854775807) (hs : MSrc w A L) (ht : MSrc w B M) :
    Calls Try.prog 58 #[.agg #[.int .i64 a, .slice A n c], .agg #[.int .i64 a, .slice B n d]] w fun e w' => e = .returned (.bool (eqMs L M)) ∧ Below w.heap.size w w' := by
  have HS := Lib.hid hs
  have HT := Lib.hid ht
  have HL := Lib.hid hL
  have HM := Lib.hid hM
  have HB0 := Lib.hid (bl_alloc (bl_alloc (Below.refl w.heap.size w) (.cells #[.int .i64 a, .slice A n c] 84)) (.cells #[.int .i64 a, .slice B n d] 84))
  have R0 := Lib.hid ((Row.made w 84 #[.int .i64 a, .slice A n c]).more (.cells #[.int .i64 a, .slice B n d] 84))
  have R1 := Lib.hid (row_second (w := w) (o := .cells #[.int .i64 a, .slice A n c] 84) (t := 84) (cs := #[.int .i64 a, .slice B n d]) (Below.refl _ _))
  clear hs ht hL hM
  go_enter Try.func58, Try.ntmps58
  go_wp2
  generalize hw0 : ((w.alloc (.cells #[.int .i64 a, .slice A n c] 84)).alloc (.cells #[.int .i64 a, .slice B n d] 84)) = w0 at *
  go_loopw [5] (fun i wr => ∃ k : Nat, k ≤ n ∧ i = .int .i64 k ∧ Hid (eqMs L M = eqMs (L.drop k) (M.drop k)) ∧ Hid (Below w0.heap.size w0 wr)) (fun i _ => n - (intOf i).toNat)
  case atStart => exact ⟨0, by omega, rfl, Lib.hid (by simp), Lib.hid (Below.refl _ _)⟩
  case round =>
    obtain ⟨k, hk, rfl, HK, HB⟩ := hrel
    have c0 := (R0.out.later HB.out).read (i := 1) rfl
    have c1 := (R1.out.later HB.out).read (i := 1) rfl
    have HWR := Lib.hid (bl_step HB0.out HB.out)
    by_cases hlt : k < n
    · obtain ⟨ab, ao, rfl, hc⟩ := HS.out (by rw [HL.out]; omega)
      obtain ⟨bb, bo, rfl, hd⟩ := HT.out (by rw [HM.out]; omega)
      obtain ⟨⟨sn, part, fr, to⟩, hr⟩ : ∃ r, L[k]? = some r := ⟨_, List.getElem?_eq_getElem (by rw [HL.out]; exact hlt)⟩
      obtain ⟨⟨sn', part', fr', to'⟩, hr'⟩ : ∃ r, M[k]? = some r := ⟨_, List.getElem?_eq_getElem (by rw [HM.out]; exact hlt)⟩
      obtain ⟨e0, e1, e2, e3⟩ := hc k _ hr
      obtain ⟨e4, e5, e6, e7⟩ := hd k _ hr'
      have f0 := cell_below HWR.out e0
      have f1 := cell_below HWR.out e1
      have f2 := cell_below HWR.out e2
      have f3 := cell_below HWR.out e3
      have f4 := cell_below HWR.out e4
      have f5 := cell_below HWR.out e5
      have f6 := cell_below HWR.out e6
      have f7 := cell_below HWR.out e7
      have HD := Lib.hid (show L.drop k = ⟨sn, part, fr, to⟩ :: L.drop (k + 1) by
        obtain ⟨h1, h2⟩ := List.getElem?_eq_some_iff.1 hr
        rw [List.drop_eq_getElem_cons h1, h2])
      have HE := Lib.hid (show M.drop k = ⟨sn', part', fr', to'⟩ :: M.drop (k + 1) by
        obtain ⟨h1, h2⟩ := List.getElem?_eq_some_iff.1 hr'
        rw [List.drop_eq_getElem_cons h1, h2])
      have hkI : (k : Int) < (n : Int) := by omega
      have hk0 : (0 : Int) ≤ (k : Int) := by omega
      clear hc hd hr hr' e0 e1 e2 e3 e4 e5 e6 e7
      simp only at f0 f1 f2 f3 f4 f5 f6 f7
      by_cases hq : eqM ⟨sn, part, fr, to⟩ ⟨sn', part', fr', to'⟩ = true
      · have h := (eqM_iff _ _).1 hq
        injection h with h1 h2 h3 h4
        subst h1 h2 h3 h4
        go_wp2_with fail
        go_quiet (fail)
        go_wp2
        exact ⟨⟨k + 1, by omega, by go_num, Lib.hid (by rw [HK.out, HD.out, HE.out]; simp [eqMs, eqM]), Lib.hid (below_drewN HB.out _)⟩, by simp [intOf]; omega⟩
      · have hq' : eqM ⟨sn, part, fr, to⟩ ⟨sn', part', fr', to'⟩ = false := by simpa using hq
        have HZ := Lib.hid (show eqMs L M = false by rw [HK.out, HD.out, HE.out]; simp [eqMs, hq'])
        have hcase : (sn ≠ sn') ∨ (sn = sn' ∧ part ≠ part') ∨ (sn = sn' ∧ part = part' ∧ fr ≠ fr') ∨ (sn = sn' ∧ part = part' ∧ fr = fr' ∧ to ≠ to') := eqM_case hq
        clear hq hq' HK HD HE
        rcases hcase with h1 | ⟨rfl, h2⟩ | ⟨rfl, rfl, h3⟩ | ⟨rfl, rfl, rfl, h4⟩
        all_goals
          go_wp2_with fail
          go_quiet (fail)
          go_wp2
          go_ret
          exact ⟨ret_bool HZ.out.symm, below_drewN HWR.out _⟩
    · have hkn : k = n := by omega
      subst hkn
      go_wp2
      go_ret
      exact ⟨ret_bool (by rw [HK.out, List.drop_of_length_le (by rw [HL.out]; exact Nat.le_refl _), List.drop_of_length_le (by rw [HM.out]; exact Nat.le_refl _)]; rfl), HWR.out⟩
theorem rssame_any {A B : Option Addr} {L M : List MissM} (a b : Int) (n m c d : Nat) (w : World) (hL : L.length = n) (hM : M.length = m) (hn : n ≤ 9223372036854775807) (hs : MSrc w A L) (ht : MSrc w B M) :
    Calls Try.prog 58 #[.agg #[.int .i64 a, .slice A n c], .agg #[.int .i64 b, .slice B m d]] w fun e w' => e = .returned (.bool (eqS a L b M)) ∧ Below w.heap.size w w' := by
  unfold eqS
  by_cases h : a = b
  · subst h
    rw [show (a == a) = true by simp, Bool.true_and]
    by_cases h2 : n = m
    · subst h2
      exact rssame_loop a n c d w hL hM hn hs ht
    · rw [eqMs_len (by omega)]
      exact rssame_n a n m c d w h2
  · rw [show (a == b) = false by simpa using h]
    exact rssame_a a b n m c d w h
end Go.Proofs.Ytbdjgdkafbkdbaa
namespace Go.Proofs.Ytbdjgdkafbkdbaa
open Go.RowKit

theorem sbit_t (w : World) : Calls Try.prog 99 #[.bool true] w fun e w' => e = .returned (.int .i64 1) ∧ w = w' := sbit_any true w
theorem sbit_f (w : World) : Calls Try.prog 99 #[.bool false] w fun e w' => e = .returned (.int .i64 0) ∧ w = w' := sbit_any false w
/-- a writer at block p has the bits of kp; since w0 only what may has changed -/
def StW (B : Nat) (w0 : World) (p : Nat) (kp : List (Nat × Nat)) (w : World) : Prop := (∃ sv, WRep B w p sv (bitsP kp)) ∧ KeepW B w0 w ∧ B ≤ w0.heap.size
theorem StW.alloc {B p : Nat} {w0 w : World} {kp : List (Nat × Nat)} (h : StW B w0 p kp w) (o : Obj) : StW B w0 p kp (w.alloc o) := by
  obtain ⟨⟨sv, h1⟩, h2, h3⟩ := h
  exact ⟨⟨sv, h1.later (bl_alloc (Below.refl _ _) o)⟩, h2.alloc h3 o, h3⟩
theorem StW.drew {B p : Nat} {w0 w : World} {kp : List (Nat × Nat)} (h : StW B w0 p kp w) : StW B w0 p kp w.drew := by
  obtain ⟨⟨sv, h1⟩, h2, h3⟩ := h
  exact ⟨⟨sv, h1.later (bl_drew (Below.refl _ _))⟩, h2.trans (KeepW.of_below (bl_drew (Below.refl _ _)) (Nat.le_trans h3 h2.2.1)), h3⟩
theorem StW.put {B p : Nat} {w0 w : World} {kp : List (Nat × Nat)} (h : StW B w0 p kp w) (g : Nat) (L : List Nat) (n ln cap : Nat) (ni : Int) (e : ni = n) (hg : Row w g 3 (intsV L).toArray) (hL : L.length = ln) (hln : ln ≤ 3) (hn : n ≤ 16) (hv : ∀ v ∈ L, v < 2 ^ n) (hl : (bitsP kp).length ≤ 60000) :
    Calls Try.prog 98 #[.pointer (some ⟨p, 0, none⟩), .int .i64 ni, .slice (some ⟨g, 0, none⟩) ln cap] w fun e w' => e = .returned (.tuple #[]) ∧ StW B w0 p (kp ++ putsN L n) w' := by
  subst e
  obtain ⟨h1, h2, h3⟩ := h
  exact (sput_any n ln cap w h1 hg hL hln hn hv hl).mono fun e w' ⟨a, b, c⟩ => ⟨a, b, h2.trans c, h3⟩
theorem StW.next {B p : Nat} {w0 w1 w : World} {kp kp' : List (Nat × Nat)} (h : StW B w0 p kp w1) (k : StW B w1 p kp' w) : StW B w0 p kp' w := ⟨k.1, h.2.1.trans k.2.1, h.2.2⟩
theorem StW.start {B p : Nat} {w : World} {kp : List (Nat × Nat)} (h : ∃ sv, WRep B w p sv (bitsP kp)) (hB : B ≤ w.heap.size) : StW B w p kp w := ⟨h, KeepW.refl _ _, hB⟩
theorem row_at (W : World) (k : Nat) (t : TypeId) (cs : Array Value) (h : W.heap.size = k) : Row (W.alloc (.cells cs t)) k t cs := by subst h; exact Row.made _ _ _
theorem size_1 (w : World) (o : Obj) : (w.alloc o).heap.size = w.heap.size + 1 := by simp
theorem cells_miss {w : World} {g : Nat} {a b c d : Value} (hr : Row w g 100 #[a, b, c, d]) : w.cell? ⟨g, 0, none⟩ = some a ∧ w.cell? ⟨g, 1, none⟩ = some b ∧ w.cell? ⟨g, 2, none⟩ = some c ∧ w.cell? ⟨g, 3, none⟩ = some d :=
  ⟨hr.read rfl, hr.read rfl, hr.read rfl, hr.read rfl⟩
theorem bool_one (b : Bool) : b.toNat < 2 ^ 1 := by cases b <;> decide
theorem cell_more {w : World} {g j : Nat} {x : Value} (o : Obj) (h : w.cell? ⟨g, j, none⟩ = some x) : (w.alloc o).drew.cell? ⟨g, j, none⟩ = some x := (World.cell?_alloc_some w _ _ (by rw [h]; rfl)).trans h
set_option maxRecDepth 100000 in
set_option maxHeartbeats 3200000 in
theorem swrite_whole {B p : Nat} {kp : List (Nat × Nat)} (sn x : Nat) (fr to : Int) (more : Bool) (w : World) (hr : ∃ sv, WRep B w p sv (bitsP kp)) (hB : B ≤ w.heap.size) (hx : x ≤ 16) (hs : sn < 2 ^ x) (hl : (bitsP kp).length ≤ 30000) :
    Calls Try.prog 100 #[.pointer (some ⟨p, 0, none⟩), .agg #[.int .i64 sn, .bool false, .int .i64 fr, .int .i64 to], .bool more, .int .i64 x] w fun e w' => e = .returned (.tuple #[]) ∧ StW B w p (kp ++ missP x ⟨sn, false, fr, to⟩ more) w' := by
  have HWB := Lib.hid ((StW.start hr hB).alloc (.cells #[.int .i64 sn, .bool false, .int .i64 fr, .int .i64 to] 100))
  have HSZ := Lib.hid (size_1 w (.cells #[.int .i64 sn, .bool false, .int .i64 fr, .int .i64 to] 100))
  have ROW := Lib.hid (Row.made w 100 #[.int .i64 sn, .bool false, .int .i64 fr, .int .i64 to])
  have HST := Lib.hid (StW.start HWB.out.1 (by rw [HSZ.out]; omega))
  have HS := Lib.hid hs
  have HL := Lib.hid hl
  have HU := Lib.hid (show kp ++ missP x ⟨sn, false, fr, to⟩ more = (kp ++ putsN [sn] x) ++ putsN [more.toNat, false.toNat] 1 by simp [missP, putsN])
  have HP1 := Lib.hid ((HST.out.alloc (.cells #[.int .i64 sn] 3)).put (w.heap.size + 1) [sn] x 1 1 x rfl (row_at _ _ _ _ HSZ.out) rfl (by omega) hx (by intro v hv; simp at hv; subst hv; exact hs) (by omega))
  clear hr hs hl
  go_enter Try.func100, Try.ntmps100
  go_wp2_with (go_at_call 98; (with_reducible refine HP1.out.mono ?_); rintro e w1 ⟨rfl, h1⟩; have HS1 := Lib.hid h1; clear h1)
  have HP2 := Lib.hid (((HS1.out.alloc (.cells #[.int .i64 more.toNat, .int .i64 0] 3)).drew).put w1.heap.size [more.toNat, 0] 1 2 2 1 rfl (row_at w1 _ 3 #[.int .i64 more.toNat, .int .i64 0] rfl).drawn rfl (by omega) (by omega) (by intro v hv; simp at hv; rcases hv with rfl | rfl; exact (bool_one more); decide) (by
    have h1 := HL.out
    rw [bitsP_append, List.length_append, len_putsN]
    simp
    omega))
  obtain ⟨d0, d1, d2, d3⟩ := cells_miss ((HS1.out.2.1.row ROW.out (by decide) (by decide)).drawn)
  go_region_held3 (fun w' => w'.cell? ⟨w.heap.size, 1, none⟩ = some (.bool false)) (first | assumption | exact d1 | exact cell_more _ d1 | exact k2 | go_keep) (first
    | (go_at_call 99; (with_reducible refine (sbit_f _).mono ?_); rintro e vx ⟨rfl, rfl⟩)
    | (go_at_call 99; (with_reducible refine (sbit_any _ _).mono ?_); rintro e vx ⟨rfl, rfl⟩)
    | (go_at_call 98; (with_reducible refine HP2.out.mono ?_); rintro e w2 ⟨rfl, h2⟩; have HS2 := Lib.hid h2; obtain ⟨_, k2, _, _⟩ := cells_miss (HS2.out.2.1.row ROW.out (by decide) (by decide)); clear h2))
  go_wp2
  refine bodyPost_end (results_none rfl _ _ _) rfl ?_
  exact ⟨rfl, HWB.out.next (HU.out ▸ HS2.out)⟩
set_option maxRecDepth 100000 in
set_option maxHeartbeats 3200000 in
theorem swrite_part {B p : Nat} {kp : List (Nat × Nat)} (sn x fr l : Nat) (to : Int) (more : Bool) (w : World) (hr : ∃ sv, WRep B w p sv (bitsP kp)) (hB : B ≤ w.heap.size) (hx : x ≤ 16) (hs : sn < 2 ^ x) (hf : fr < 2 ^ pbN x) (hlt : l < 2 ^ pbN x) (hla : lastF to x = l) (ht0 : 0 ≤ to) (ht1 : to ≤ 65535) (hl : (bitsP kp).length ≤ 30000) :
    Calls Try.prog 100 #[.pointer (some ⟨p, 0, none⟩), .agg #[.int .i64 sn, .bool true, .int .i64 fr, .int .i64 to], .bool more, .int .i64 x] w fun e w' => e = .returned (.tuple #[]) ∧ StW B w p (kp ++ missP x ⟨sn, true, fr, to⟩ more) w' := by
  have HWB := Lib.hid ((StW.start hr hB).alloc (.cells #[.int .i64 sn, .bool true, .int .i64 fr, .int .i64 to] 100))
  have HSZ := Lib.hid (size_1 w (.cells #[.int .i64 sn, .bool true, .int .i64 fr, .int .i64 to] 100))
  have ROW := Lib.hid (Row.made w 100 #[.int .i64 sn, .bool true, .int .i64 fr, .int .i64 to])
  have HST := Lib.hid (StW.start HWB.out.1 (by rw [HSZ.out]; omega))
  have HS := Lib.hid hs
  have HL := Lib.hid hl
  have HU := Lib.hid (show kp ++ missP x ⟨sn, true, fr, to⟩ more = (kp ++ putsN [sn] x ++ putsN [more.toNat, 1] 1) ++ putsN [fr, l] (pbN x) by simp [missP, putsN, hla])
  have HP1 := Lib.hid ((HST.out.alloc (.cells #[.int .i64 sn] 3)).put (w.heap.size + 1) [sn] x 1 1 x rfl (row_at _ _ _ _ HSZ.out) rfl (by omega) hx (by intro v hv; simp at hv; subst hv; exact hs) (by omega))
  have HPB := Lib.hid (fun W => splace_any x W)
  have HLA := Lib.hid (fun W => (show Calls Try.prog 146 #[.int .i64 to, .int .i64 x] W fun e w' => e = .returned (.int .i64 (l : Int)) ∧ W = w' from hla ▸ slast_any to x W ht0 ht1))
  have HPC := Lib.hid (pbN_cast x)
  have HPD := Lib.hid (pbN_bd x)
  have HF := Lib.hid hf
  have HLT := Lib.hid hlt
  clear hr hs hl hf hlt hla
  go_enter Try.func100, Try.ntmps100
  go_wp2_with (go_at_call 98; (with_reducible refine HP1.out.mono ?_); rintro e w1 ⟨rfl, h1⟩; have HS1 := Lib.hid h1; clear h1)
  have HP2 := Lib.hid (((HS1.out.alloc (.cells #[.int .i64 more.toNat, .int .i64 1] 3)).drew).put w1.heap.size [more.toNat, 1] 1 2 2 1 rfl (row_at w1 _ 3 #[.int .i64 more.toNat, .int .i64 1] rfl).drawn rfl (by omega) (by omega) (by intro v hv; simp at hv; rcases hv with rfl | rfl; exact (bool_one more); decide) (by
    have h1 := HL.out
    rw [bitsP_append, List.length_append, len_putsN]
    simp
    omega))
  obtain ⟨d0, d1, d2, d3⟩ := cells_miss ((HS1.out.2.1.row ROW.out (by decide) (by decide)).drawn)
  go_region_held3 (fun w' => w'.cell? ⟨w.heap.size, 1, none⟩ = some (.bool true)) (first | assumption | exact d1 | exact cell_more _ d1 | exact k2 | go_keep) (first
    | (go_at_call 99; (with_reducible refine (sbit_t _).mono ?_); rintro e vx ⟨rfl, rfl⟩)
    | (go_at_call 99; (with_reducible refine (sbit_any _ _).mono ?_); rintro e vx ⟨rfl, rfl⟩)
    | (go_at_call 98; (with_reducible refine HP2.out.mono ?_); rintro e w2 ⟨rfl, h2⟩; have HS2 := Lib.hid h2; obtain ⟨_, k2, _, _⟩ := cells_miss (HS2.out.2.1.row ROW.out (by decide) (by decide)); clear h2))
  clear d0 d1 d2 d3 k2
  obtain ⟨d0, d1, d2, d3⟩ := cells_miss (HS2.out.2.1.row ROW.out (by decide) (by decide))
  have HP3 := Lib.hid (((HS2.out.alloc (.cells #[.int .i64 fr, .int .i64 l] 3)).drew).put w2.heap.size [fr, l] (pbN x) 2 2 (pbF x) HPC.out (row_at w2 _ 3 #[.int .i64 fr, .int .i64 l] rfl).drawn rfl (by omega) HPD.out.2 (by intro v hv; simp at hv; rcases hv with rfl | rfl; exact HF.out; exact HLT.out) (by
    have h1 := HL.out
    rw [bitsP_append, List.length_append, len_putsN, bitsP_append, List.length_append, len_putsN]
    simp
    omega))
  go_wp2_with fail
  obtain ⟨e0, e1, e2, e3⟩ := cells_miss ((HS2.out.2.1.row ROW.out (by decide) (by decide)).drawn)
  clear d0 d1 d2 d3
  go_region_held3 (fun w' => w'.cell? ⟨w.heap.size, 2, none⟩ = some (.int .i64 fr) ∧ w'.cell? ⟨w.heap.size, 3, none⟩ = some (.int .i64 to)) (first | assumption | exact ⟨e2, e3⟩ | exact ⟨cell_more _ e2, cell_more _ e3⟩ | exact m2 | go_keep) (first
    | (go_at_call 106; (with_reducible refine (HPB.out _).mono ?_); rintro e vx ⟨rfl, rfl⟩)
    | (go_at_call 146; (with_reducible refine (HLA.out _).mono ?_); rintro e vx ⟨rfl, rfl⟩)
    | (go_at_call 98; (with_reducible refine HP3.out.mono ?_); rintro e w3 ⟨rfl, h3⟩; have HS3 := Lib.hid h3; have m2 := (fun (hh : _ ∧ _ ∧ _ ∧ _) => hh.2.2) (cells_miss (HS3.out.2.1.row ROW.out (by decide) (by decide))); clear h3))
  go_wp2
  refine bodyPost_end (results_none rfl _ _ _) rfl ?_
  exact ⟨rfl, HWB.out.next (HU.out ▸ HS3.out)⟩
theorem lastF_nat {m : MissM} {x : Nat} (hp : m.part = true) (h : placedB m x = true) : ∃ l : Nat, l < 2 ^ pbN x ∧ lastF m.to x = (l : Int) ∧ 0 ≤ m.to ∧ m.to ≤ 65535 := by
  obtain ⟨_, _, h1, h2, _⟩ := miss_part hp h
  have h3 := onF_pow x
  have h4 := pow_pbN x
  refine ⟨(lastF m.to x).toNat, h2, by omega, ?_⟩
  unfold placedB at h
  rw [hp] at h
  simp only [if_true] at h
  unfold lastF at h1 h2
  generalize onF (x : Int) = o at *
  generalize 2 ^ pbN x = p at *
  split at h1
  · omega
  · rename_i h0
    simp only [h0, if_false, Bool.and_eq_true, decide_eq_true_eq] at h
    omega
theorem swrite_any {B p : Nat} {kp : List (Nat × Nat)} (x : Nat) (m : MissM) (more : Bool) (w : World) (hr : ∃ sv, WRep B w p sv (bitsP kp)) (hB : B ≤ w.heap.size) (hx : x = 10 ∨ x = 16) (hm : missB x m = true) (hl : (bitsP kp).length ≤ 30000) :
    Calls Try.prog 100 #[.pointer (some ⟨p, 0, none⟩), m.v, .bool more, .int .i64 x] w fun e w' => e = .returned (.tuple #[]) ∧ StW B w p (kp ++ missP x m more) w' := by
  obtain ⟨sn, part, fr, to⟩ := m
  unfold missB at hm
  rw [Bool.and_eq_true] at hm
  obtain ⟨hs0, hs1⟩ := (okn_nat hx).1 hm.1
  have hx16 : x ≤ 16 := by omega
  obtain ⟨s, rfl⟩ : ∃ s : Nat, sn = s := ⟨sn.toNat, by simp only at hs0; omega⟩
  cases part
  · exact swrite_whole s x fr to more w hr hB hx16 (by simpa using hs1) hl
  · obtain ⟨l, l1, l2, l3, l4⟩ := lastF_nat rfl hm.2
    obtain ⟨f0, f1, _⟩ := miss_part rfl hm.2
    simp only at f0 f1 l2 l3 l4
    obtain ⟨f, rfl⟩ : ∃ f : Nat, fr = f := ⟨fr.toNat, by omega⟩
    exact swrite_part s x f l to more w hr hB hx16 (by simpa using hs1) (by simpa using f1) l1 l2 l3 l4 hl
end Go.Proofs.Ytbdjgdkafbkdbaa
namespace Go.Proofs.Ytbdjgdkafbkdbaa
open Go.RowKit

def StWAns (w : World) (ack : Int) (L : List MissM) (x : Nat) (e : Ending) (w' : World) : Prop :=
  ∃ g, e = .returned (.tuple #[.slice (some ⟨g, 0, none⟩) (stBytes ack L x).length (stBytes ack L x).length, .int .i64 0]) ∧ w.heap.size ≤ g ∧ Row w' g 5 (bts (stBytes ack L x)).toArray ∧ Below w.heap.size w w'
set_option maxRecDepth 100000 in
set_option maxHeartbeats 1600000 in
theorem stwrite_bad {A : Option Addr} {L : List MissM} (ack x : Int) (n cap : Nat) (w : World) (hL : L.length = n) (hn : n ≤ 9223372036854775807) (hs : MSrc w A L) (hb : rightB ack L x = false) :
    Calls Try.prog 52 #[.agg #[.int .i64 ack, .slice A n cap], .int .i64 x] w fun e w' => e = .returned (.tuple #[.slice none 0 0, .int .i64 (if okS x then 3 else 9)]) ∧ Below w.heap.size w w' := by
  have HR := Lib.hid (fun W hb => sright_any ack x n cap W hL hn (hs.later (v := W) hb))
  rw [hb] at HR
  have HM := Lib.hid (fun W => smay_any x W)
  have R1 := Row.made w 81 #[.int .i64 ack, .slice A n cap]
  have c0 := R1.read (i := 0) rfl
  have c1 := R1.read (i := 1) rfl
  clear hs hL hb R1
  cases hx : okS x
  all_goals
    rw [hx] at HM
    clear hx
    go_enter Try.func52, Try.ntmps52
    go_wp2_with (first
      | (go_at_call 96; refine (HM.out _).mono ?_; rintro e w1 ⟨rfl, rfl⟩)
      | (go_at_call 53; refine (HR.out _ (bl_alloc (Below.refl _ _) _)).mono ?_; rintro e w2 ⟨rfl, hb2⟩))
    go_ret2
  · exact ⟨rfl, bl_alloc (Below.refl _ _) _⟩
  · exact ⟨rfl, bl_step (bl_alloc (Below.refl _ _) _) hb2⟩
theorem StW.below {B p : Nat} {w0 w : World} {kp : List (Nat × Nat)} (h : StW B w0 p kp w) : Below B w0 w := h.2.1.1
theorem StW.len_le {ack : Int} {L : List MissM} {x : Nat} (h : rightB ack L x = true) {kp r : List (Nat × Nat)} (e : statusP ack L x = kp ++ r) : (bitsP kp).length ≤ 2000 := by
  have h1 := len_statusP ack L x
  obtain ⟨hx, hok, _, hl, _⟩ := rightB_parts h
  have h2 := (bitsS_bd hok L).2
  rw [e, bitsP_append, List.length_append] at h1
  omega
theorem byt_stw {B p n : Nat} {w0 w : World} {kp : List (Nat × Nat)} (h : StW B w0 p kp w) (ht : (bitsP kp).length ≤ 60000) (hn : (pack (bitsP kp)).length = n) :
    Calls Try.prog 101 #[.pointer (some ⟨p, 0, none⟩)] w fun e w' => ∃ g, e = .returned (.slice (some ⟨g, 0, none⟩) n n) ∧ w.heap.size ≤ g ∧ Row w' g 5 (bts (pack (bitsP kp))).toArray ∧ Below w.heap.size w w' := by
  obtain ⟨⟨sv, hr⟩, _⟩ := h
  have h1 := bytes_any hr (by omega)
  rw [← length_pack, hn] at h1
  exact h1
set_option maxRecDepth 100000 in
set_option maxHeartbeats 3200000 in
theorem stwrite_ok {A : Option Addr} {L : List MissM} (ack x n cap : Nat) (w : World) (hL : L.length = n) (hs : MSrc w A L) (hb : rightB ack L x = true) :
    Calls Try.prog 52 #[.agg #[.int .i64 ack, .slice A n cap], .int .i64 x] w (StWAns w ack L x) := by
  obtain ⟨hx, hok, ha, hl, hall⟩ := rightB_parts hb
  obtain ⟨_, ha1⟩ := (okn_nat hx).1 ha
  rw [Int.toNat_natCast] at ha1
  have HR := Lib.hid (fun W hb => sright_any ack x n cap W hL (by omega) (hs.later (v := W) hb))
  rw [hb] at HR
  have HM := Lib.hid (fun W => smay_any x W)
  rw [hok] at HM
  have ROW0 := Lib.hid (Row.made w 81 #[.int .i64 ack, .slice A n cap])
  have HS := Lib.hid hs
  have HL := Lib.hid hL
  have HX := Lib.hid hx
  have HA := Lib.hid hall
  have HA1 := Lib.hid ha1
  have HRB := Lib.hid hb
  have HLE := Lib.hid (fun kp r e => StW.len_le (kp := kp) (r := r) hb e)
  have hx16 : x ≤ 16 := by omega
  have hn32 : n ≤ 32 := by omega
  have HFULL := Lib.hid (show statusP ack L x = ((([] ++ putsN [0] 4) ++ putsN [ack] x) ++ putsN [(decide (0 < L.length)).toNat] 1) ++ missesP x L by simp [statusP, headP, putsN])
  have R1 := ROW0.out
  have HMORE := Lib.hid (show decide (0 < L.length) = decide (0 < n) by rw [hL])
  clear hs hL hx hall hb hok ha hl ha1 R1
  go_enter Try.func52, Try.ntmps52
  go_wp2_with (first
    | (go_at_call 96; refine (HM.out _).mono ?_; rintro e w1 ⟨rfl, rfl⟩)
    | (go_at_call 53; refine (HR.out _ (bl_alloc (Below.refl _ _) _)).mono ?_; rintro e w2 ⟨rfl, hb2⟩; (have HB2 := Lib.hid (bl_step (bl_alloc (Below.refl w.heap.size w) _) hb2); have ROW2 := Lib.hid (ROW0.out.later hb2); clear hb2))
    | (go_at_call 97; refine (new_any w2.heap.size w2 (Nat.le_refl _)).mono ?_; rintro e w3 ⟨rfl, hr3, hb3⟩; (have ROW3 := Lib.hid (ROW2.out.later hb3); have HB3 := Lib.hid (bl_step HB2.out hb3); have ST0 := Lib.hid (StW.start (B := w2.heap.size) (kp := []) ⟨_, hr3⟩ hb3.size); have HP1 := Lib.hid ((ST0.out.alloc (.cells #[.int .i64 0] 3)).put w3.heap.size [0] 4 1 1 4 rfl (row_at w3 _ 3 #[.int .i64 0] rfl) rfl (by omega) (by omega) (by intro v hv; simp at hv; subst hv; decide) (by simp [bitsP])); clear hr3 hb3))
    | (go_at_call 98; (with_reducible refine HP1.out.mono ?_); rintro e w4 ⟨rfl, h4⟩; (have ST1 := Lib.hid h4; clear h4 HP1; have R4 := ST1.out.2.1.row ROW3.out (by decide) (by decide); have c0 := R4.read (i := 0) rfl; have c1 := R4.read (i := 1) rfl; have HP2 := Lib.hid ((ST1.out.alloc (.cells #[.int .i64 ack] 3)).put w4.heap.size [ack] x 1 1 x rfl (row_at w4 _ 3 #[.int .i64 ack] rfl) rfl (by omega) hx16 (by intro v hv; simp at hv; subst hv; exact HA1.out) (by simp [bitsP, putsN, length_unval])); clear R4))
    | (go_at_call 98; (with_reducible refine HP2.out.mono ?_); rintro e w5 ⟨rfl, h5⟩; (have ST2 := Lib.hid h5; clear h5 HP2 c0 c1; have R5 := ST2.out.2.1.row ROW3.out (by decide) (by decide); have c1 := R5.read (i := 1) rfl; clear R5; have HP3 := Lib.hid ((ST2.out.alloc (.cells #[.int .i64 (decide (0 < n)).toNat] 3)).put w5.heap.size [(decide (0 < n)).toNat] 1 1 1 1 rfl (row_at w5 _ 3 #[.int .i64 (decide (0 < n)).toNat] rfl) rfl (by omega) (by omega) (by intro v hv; simp only [List.mem_singleton] at hv; subst hv; exact bool_one _) (by have := HX.out; simp [bitsP, putsN, length_unval]; omega))))
    | (go_at_call 99; (with_reducible refine (sbit_any _ _).mono ?_); rintro e vx ⟨rfl, rfl⟩)
    | (go_at_call 98; (with_reducible refine HP3.out.mono ?_); rintro e w6 ⟨rfl, h6⟩; (have ST3 := Lib.hid h6; clear h6 HP3 c1; have R6 := ST3.out.2.1.row ROW3.out (by decide) (by decide); have c1 := R6.read (i := 1) rfl; clear R6)))
  rw [HMORE.out] at HFULL
  go_loopw [39] (fun i wr => ∃ (k : Nat) (kp : List (Nat × Nat)), k ≤ n ∧ i = .int .i64 k ∧ Hid (statusP ack L x = kp ++ missesP x (L.drop k)) ∧ Hid (StW w2.heap.size w3 w2.heap.size kp wr)) (fun i _ => n - (intOf i).toNat)
  case atStart => exact ⟨0, _, by omega, rfl, Lib.hid HFULL.out, ST3⟩
  case round =>
    obtain ⟨k, kp, hk, rfl, HK, HST⟩ := hrel
    by_cases hlt : k < n
    · obtain ⟨ab, ao, rfl, hc⟩ := HS.out (by rw [HL.out]; omega)
      obtain ⟨m, hr⟩ : ∃ r, L[k]? = some r := ⟨_, List.getElem?_eq_getElem (by rw [HL.out]; exact hlt)⟩
      obtain ⟨e0, e1, e2, e3⟩ := hc k _ hr
      have HWR := Lib.hid (show Below w.heap.size w wr from HB3.out.trans (HST.out.below.mono HB2.out.size))
      have f0 := cell_below HWR.out e0
      have f1 := cell_below HWR.out e1
      have f2 := cell_below HWR.out e2
      have f3 := cell_below HWR.out e3
      have HD := Lib.hid (show L.drop k = m :: L.drop (k + 1) by
        obtain ⟨h1, h2⟩ := List.getElem?_eq_some_iff.1 hr
        rw [List.drop_eq_getElem_cons h1, h2])
      have HMB := Lib.hid (List.all_eq_true.1 HA.out m (List.mem_of_getElem? hr))
      have R7 := HST.out.2.1.row ROW3.out (by decide) (by decide)
      have HDL := Lib.hid (show (L.drop (k + 1)).length = n - (k + 1) by rw [List.length_drop, HL.out])
      have hkI : (k : Int) < (n : Int) := by omega
      have HSTA := Lib.hid (HST.out.alloc (.cells #[.int .i64 m.sn, .bool m.part, .int .i64 m.fr, .int .i64 m.to] 100))
      have b1 : (wr.alloc (.cells #[.int .i64 m.sn, .bool m.part, .int .i64 m.fr, .int .i64 m.to] 100)).cell? ⟨w.heap.size, 1, none⟩ = some (.slice (some ⟨ab, ao, none⟩) n cap) := (R7.more _).read rfl
      have HZ := Lib.hid (HLE.out _ _ HK.out)
      have HWRT := Lib.hid (fun more => swrite_any (p := w2.heap.size) (kp := kp) x m more (wr.alloc (.cells #[.int .i64 m.sn, .bool m.part, .int .i64 m.fr, .int .i64 m.to] 100)) HSTA.out.1 (Nat.le_trans HSTA.out.2.2 HSTA.out.2.1.2.1) HX.out HMB.out (by have := HZ.out; omega))
      clear hc hr e0 e1 e2 e3 R7
      unfold MissM.v at HWRT
      by_cases hmo : k + 1 < n
      · have HMO := Lib.hid (show decide (0 < (L.drop (k + 1)).length) = true by rw [HDL.out]; simp; omega)
        have hmI : (k : Int) < (n : Int) - 1 := by omega
        go_wp2_with (go_at_call 100; (with_reducible refine (HWRT.out _).mono ?_); rintro e w8 ⟨rfl, h8⟩)
        go_roundw
        case rel => exact ⟨k + 1, _, by omega, by go_num, Lib.hid (by rw [HK.out, HD.out, missesP, HMO.out, List.append_assoc]), Lib.hid (HSTA.out.next h8)⟩
        case measure => simp [intOf]; omega
      · have HMO := Lib.hid (show decide (0 < (L.drop (k + 1)).length) = false by rw [HDL.out]; simp; omega)
        have hmI : ¬ (k : Int) < (n : Int) - 1 := by omega
        go_wp2_with (go_at_call 100; (with_reducible refine (HWRT.out _).mono ?_); rintro e w8 ⟨rfl, h8⟩)
        go_roundw
        case rel => exact ⟨k + 1, _, by omega, by go_num, Lib.hid (by rw [HK.out, HD.out, missesP, HMO.out, List.append_assoc]), Lib.hid (HSTA.out.next h8)⟩
        case measure => simp [intOf]; omega
    · have hkn : k = n := by omega
      subst hkn
      have HE := Lib.hid (show statusP ack L x = kp by rw [HK.out, List.drop_of_length_le (by rw [HL.out]; exact Nat.le_refl _)]; simp [missesP])
      have HBY := Lib.hid (byt_stw HST.out (by have := HLE.out _ _ HK.out; omega) rfl)
      go_wp2_with (go_at_call 101; (with_reducible refine HBY.out.mono ?_); rintro e w9 ⟨g, rfl, hg, hrow, hb9⟩)
      go_ret2
      have HWR := show Below w.heap.size w wr from HB3.out.trans (HST.out.below.mono HB2.out.size)
      refine ⟨g, ?_, Nat.le_trans HWR.size hg, ?_, bl_step HWR hb9⟩
      · rw [show stBytes ack L x = pack (bitsP kp) by unfold stBytes; rw [HE.out]]
        rfl
      · rw [show stBytes ack L x = pack (bitsP kp) by unfold stBytes; rw [HE.out]]
        exact hrow
end Go.Proofs.Ytbdjgdkafbkdbaa
