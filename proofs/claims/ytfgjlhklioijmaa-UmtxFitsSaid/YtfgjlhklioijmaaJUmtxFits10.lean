/-
  status: a status is written: its bytes, or why it has none. What status answers to fixed calls. status: a status as the document's. status: a status as the document's, walked. Fields' lengths: which may be, how many bytes they are: plain lists. The document's answer for what is put: bits as a list of the call's own.
-/
import Derived.Test.YtfgjlhklioijmaaJUmtxFits08
import Derived.Test.YtfgjlhklioijmaaJUmtxFits09
import Derived.Test.YtfgjlhklioijmaaJUmtxFits03
import Derived.Test.YtfgjlhklioijmaaJUmtxFits07
import Derived.Test.YtfgjlhklioijmaaJUmtxFits02
namespace Go.Proofs.Ytfgjlhklioijmaa
open Go.RowKit

def StWAns (w : World) (ack : Int) (L : List MissM) (x : Nat) (e : Ending) (w' : World) : Prop :=
  ∃ g, e = .returned (.tuple #[.slice (some ⟨g, 0, none⟩) (stBytes ack L x).length (stBytes ack L x).length, .int .i64 0]) ∧ w.heap.size ≤ g ∧ Row w' g 5 (bts (stBytes ack L x)).toArray ∧ Below w.heap.size w w'
set_option maxRecDepth 100000 in
set_option maxHeartbeats 1600000 in
theorem stwrite_bad {A : Option Addr} {L : List MissM} (ack x : Int) (n cap : Nat) (w : World) (hL : L.length = n) (hn : n ≤ 9223372036854775807) (hs : MSrc w A L) (hb : rightB ack L x = false) :
    Calls Try.prog 243 #[.agg #[.int .i64 ack, .slice A n cap], .int .i64 x] w fun e w' => e = .returned (.tuple #[.slice none 0 0, .int .i64 (if okS x then 3 else 9)]) ∧ Below w.heap.size w w' := by
  have HR := Lib.hid (fun W hb => sright_any ack x n cap W hL hn (hs.later (v := W) hb))
  rw [hb] at HR
  have HM := Lib.hid (fun W => smay_any x W)
  have R1 := Row.made w 54 #[.int .i64 ack, .slice A n cap]
  have c0 := R1.read (i := 0) rfl
  have c1 := R1.read (i := 1) rfl
  clear hs hL hb R1
  cases hx : okS x
  all_goals
    rw [hx] at HM
    clear hx
    go_enter Try.func243, Try.ntmps243
    go_wp2_with (first
      | (go_at_call 283; refine (HM.out _).mono ?_; rintro e w1 ⟨rfl, rfl⟩)
      | (go_at_call 284; refine (HR.out _ (bl_alloc (Below.refl _ _) _)).mono ?_; rintro e w2 ⟨rfl, hb2⟩))
    go_ret2
  · exact ⟨rfl, bl_alloc (Below.refl _ _) _⟩
  · exact ⟨rfl, bl_step (bl_alloc (Below.refl _ _) _) hb2⟩
theorem StW.below {B p : Nat} {w0 w : World} {kp : List (Nat × Nat)} (h : StW B w0 p kp w) : Below B w0 w := h.2.1.1
theorem StW.len_le {ack : Int} {L : List MissM} {x : Nat} (h : rightB ack L x = true) {kp r : List (Nat × Nat)} (e : statusP ack L x = kp ++ r) : (bitsP kp).length ≤ 2000 := by
  have h1 := len_statusP ack L x
  obtain ⟨hx, hok, _, hl, _⟩ := rightB_parts h
  have h2 := (bitsS_bd hok L).2
  rw [e, bitsP_append, List.length_append] at h1
  omega
theorem byt_stw {B p n : Nat} {w0 w : World} {kp : List (Nat × Nat)} (h : StW B w0 p kp w) (ht : (bitsP kp).length ≤ 60000) (hn : (pack (bitsP kp)).length = n) :
    Calls Try.prog 227 #[.pointer (some ⟨p, 0, none⟩)] w fun e w' => ∃ g, e = .returned (.slice (some ⟨g, 0, none⟩) n n) ∧ w.heap.size ≤ g ∧ Row w' g 5 (bts (pack (bitsP kp))).toArray ∧ Below w.heap.size w w' := by
  obtain ⟨⟨sv, hr⟩, _⟩ := h
  have h1 := bytes_any hr (by omega)
  rw [← length_pack, hn] at h1
  exact h1
set_option maxRecDepth 100000 in
set_option maxHeartbeats 3200000 in
theorem stwrite_ok {A : Option Addr} {L : List MissM} (ack x n cap : Nat) (w : World) (hL : L.length = n) (hs : MSrc w A L) (hb : rightB ack L x = true) :
    Calls Try.prog 243 #[.agg #[.int .i64 ack, .slice A n cap], .int .i64 x] w (StWAns w ack L x) := by
  obtain ⟨hx, hok, ha, hl, hall⟩ := rightB_parts hb
  obtain ⟨_, ha1⟩ := (okn_nat hx).1 ha
  rw [Int.toNat_natCast] at ha1
  have HR := Lib.hid (fun W hb => sright_any ack x n cap W hL (by omega) (hs.later (v := W) hb))
  rw [hb] at HR
  have HM := Lib.hid (fun W => smay_any x W)
  rw [hok] at HM
  have ROW0 := Lib.hid (Row.made w 54 #[.int .i64 ack, .slice A n cap])
  have HS := Lib.hid hs
  have HL := Lib.hid hL
  have HX := Lib.hid hx
  have HA := Lib.hid hall
  have HA1 := Lib.hid ha1
  have HRB := Lib.hid hb
  have HLE := Lib.hid (fun kp r e => StW.len_le (kp := kp) (r := r) hb e)
  have hx16 : x ≤ 16 := by omega
  have hn32 : n ≤ 32 := by omega
  have HFULL := Lib.hid (show statusP ack L x = ((([] ++ putsN [0] 4) ++ putsN [ack] x) ++ putsN [(decide (0 < L.length)).toNat] 1) ++ missesP x L by simp [statusP, headP, putsN])
  have R1 := ROW0.out
  have HMORE := Lib.hid (show decide (0 < L.length) = decide (0 < n) by rw [hL])
  clear hs hL hx hall hb hok ha hl ha1 R1
  go_enter Try.func243, Try.ntmps243
  go_wp2_with (first
    | (go_at_call 283; refine (HM.out _).mono ?_; rintro e w1 ⟨rfl, rfl⟩)
    | (go_at_call 284; refine (HR.out _ (bl_alloc (Below.refl _ _) _)).mono ?_; rintro e w2 ⟨rfl, hb2⟩; (have HB2 := Lib.hid (bl_step (bl_alloc (Below.refl w.heap.size w) _) hb2); have ROW2 := Lib.hid (ROW0.out.later hb2); clear hb2))
    | (go_at_call 222; refine (new_any w2.heap.size w2 (Nat.le_refl _)).mono ?_; rintro e w3 ⟨rfl, hr3, hb3⟩; (have ROW3 := Lib.hid (ROW2.out.later hb3); have HB3 := Lib.hid (bl_step HB2.out hb3); have ST0 := Lib.hid (StW.start (B := w2.heap.size) (kp := []) ⟨_, hr3⟩ hb3.size); have HP1 := Lib.hid ((ST0.out.alloc (.cells #[.int .i64 0] 3)).put w3.heap.size [0] 4 1 1 4 rfl (row_at w3 _ 3 #[.int .i64 0] rfl) rfl (by omega) (by omega) (by intro v hv; simp at hv; subst hv; decide) (by simp [bitsP])); clear hr3 hb3))
    | (go_at_call 285; (with_reducible refine HP1.out.mono ?_); rintro e w4 ⟨rfl, h4⟩; (have ST1 := Lib.hid h4; clear h4 HP1; have R4 := ST1.out.2.1.row ROW3.out (by decide) (by decide); have c0 := R4.read (i := 0) rfl; have c1 := R4.read (i := 1) rfl; have HP2 := Lib.hid ((ST1.out.alloc (.cells #[.int .i64 ack] 3)).put w4.heap.size [ack] x 1 1 x rfl (row_at w4 _ 3 #[.int .i64 ack] rfl) rfl (by omega) hx16 (by intro v hv; simp at hv; subst hv; exact HA1.out) (by simp [bitsP, putsN, length_unval])); clear R4))
    | (go_at_call 285; (with_reducible refine HP2.out.mono ?_); rintro e w5 ⟨rfl, h5⟩; (have ST2 := Lib.hid h5; clear h5 HP2 c0 c1; have R5 := ST2.out.2.1.row ROW3.out (by decide) (by decide); have c1 := R5.read (i := 1) rfl; clear R5; have HP3 := Lib.hid ((ST2.out.alloc (.cells #[.int .i64 (decide (0 < n)).toNat] 3)).put w5.heap.size [(decide (0 < n)).toNat] 1 1 1 1 rfl (row_at w5 _ 3 #[.int .i64 (decide (0 < n)).toNat] rfl) rfl (by omega) (by omega) (by intro v hv; simp only [List.mem_singleton] at hv; subst hv; exact bool_one _) (by have := HX.out; simp [bitsP, putsN, length_unval]; omega))))
    | (go_at_call 286; (with_reducible refine (sbit_any _ _).mono ?_); rintro e vx ⟨rfl, rfl⟩)
    | (go_at_call 285; (with_reducible refine HP3.out.mono ?_); rintro e w6 ⟨rfl, h6⟩; (have ST3 := Lib.hid h6; clear h6 HP3 c1; have R6 := ST3.out.2.1.row ROW3.out (by decide) (by decide); have c1 := R6.read (i := 1) rfl; clear R6)))
  rw [HMORE.out] at HFULL
  go_loopw [39] (fun i wr => ∃ (k : Nat) (kp : List (Nat × Nat)), k ≤ n ∧ i = .int .i64 k ∧ Hid (statusP ack L x = kp ++ missesP x (L.drop k)) ∧ Hid (StW w2.heap.size w3 w2.heap.size kp wr)) (fun i _ => n - (intOf i).toNat)
  case atStart => exact ⟨0, _, by omega, rfl, Lib.hid HFULL.out, ST3⟩
  case round =>
    obtain ⟨k, kp, hk, rfl, HK, HST⟩ := hrel
    by_cases hlt : k < n
    · obtain ⟨ab, ao, rfl, hc⟩ := HS.out (by rw [HL.out]; omega)
      obtain ⟨m, hr⟩ : ∃ r, L[k]? = some r := ⟨_, List.getElem?_eq_getElem (by rw [HL.out]; exact hlt)⟩
      obtain ⟨e0, e1, e2, e3⟩ := hc k _ hr
      have HWR := Lib.hid (show Below w.heap.size w wr from HB3.out.trans (HST.out.below.mono HB2.out.size))
      have f0 := cell_below HWR.out e0
      have f1 := cell_below HWR.out e1
      have f2 := cell_below HWR.out e2
      have f3 := cell_below HWR.out e3
      have HD := Lib.hid (show L.drop k = m :: L.drop (k + 1) by
        obtain ⟨h1, h2⟩ := List.getElem?_eq_some_iff.1 hr
        rw [List.drop_eq_getElem_cons h1, h2])
      have HMB := Lib.hid (List.all_eq_true.1 HA.out m (List.mem_of_getElem? hr))
      have R7 := HST.out.2.1.row ROW3.out (by decide) (by decide)
      have HDL := Lib.hid (show (L.drop (k + 1)).length = n - (k + 1) by rw [List.length_drop, HL.out])
      have hkI : (k : Int) < (n : Int) := by omega
      have HSTA := Lib.hid (HST.out.alloc (.cells #[.int .i64 m.sn, .bool m.part, .int .i64 m.fr, .int .i64 m.to] 315))
      have b1 : (wr.alloc (.cells #[.int .i64 m.sn, .bool m.part, .int .i64 m.fr, .int .i64 m.to] 315)).cell? ⟨w.heap.size, 1, none⟩ = some (.slice (some ⟨ab, ao, none⟩) n cap) := (R7.more _).read rfl
      have HZ := Lib.hid (HLE.out _ _ HK.out)
      have HWRT := Lib.hid (fun more => swrite_any (p := w2.heap.size) (kp := kp) x m more (wr.alloc (.cells #[.int .i64 m.sn, .bool m.part, .int .i64 m.fr, .int .i64 m.to] 315)) HSTA.out.1 (Nat.le_trans HSTA.out.2.2 HSTA.out.2.1.2.1) HX.out HMB.out (by have := HZ.out; omega))
      clear hc hr e0 e1 e2 e3 R7
      unfold MissM.v at HWRT
      by_cases hmo : k + 1 < n
      · have HMO := Lib.hid (show decide (0 < (L.drop (k + 1)).length) = true by rw [HDL.out]; simp; omega)
        have hmI : (k : Int) < (n : Int) - 1 := by omega
        go_wp2_with (go_at_call 287; (with_reducible refine (HWRT.out _).mono ?_); rintro e w8 ⟨rfl, h8⟩)
        go_roundw
        case rel => exact ⟨k + 1, _, by omega, by go_num, Lib.hid (by rw [HK.out, HD.out, missesP, HMO.out, List.append_assoc]), Lib.hid (HSTA.out.next h8)⟩
        case measure => simp [intOf]; omega
      · have HMO := Lib.hid (show decide (0 < (L.drop (k + 1)).length) = false by rw [HDL.out]; simp; omega)
        have hmI : ¬ (k : Int) < (n : Int) - 1 := by omega
        go_wp2_with (go_at_call 287; (with_reducible refine (HWRT.out _).mono ?_); rintro e w8 ⟨rfl, h8⟩)
        go_roundw
        case rel => exact ⟨k + 1, _, by omega, by go_num, Lib.hid (by rw [HK.out, HD.out, missesP, HMO.out, List.append_assoc]), Lib.hid (HSTA.out.next h8)⟩
        case measure => simp [intOf]; omega
    · have hkn : k = n := by omega
      subst hkn
      have HE := Lib.hid (show statusP ack L x = kp by rw [HK.out, List.drop_of_length_le (by rw [HL.out]; exact Nat.le_refl _)]; simp [missesP])
      have HBY := Lib.hid (byt_stw HST.out (by have := HLE.out _ _ HK.out; omega) rfl)
      go_wp2_with (go_at_call 227; (with_reducible refine HBY.out.mono ?_); rintro e w9 ⟨g, rfl, hg, hrow, hb9⟩)
      go_ret2
      have HWR := show Below w.heap.size w wr from HB3.out.trans (HST.out.below.mono HB2.out.size)
      refine ⟨g, ?_, Nat.le_trans HWR.size hg, ?_, bl_step HWR hb9⟩
      · rw [show stBytes ack L x = pack (bitsP kp) by unfold stBytes; rw [HE.out]]
        rfl
      · rw [show stBytes ack L x = pack (bitsP kp) by unfold stBytes; rw [HE.out]]
        exact hrow
end Go.Proofs.Ytfgjlhklioijmaa
namespace Go.Proofs.Ytfgjlhklioijmaa
open Go.RowKit

theorem sread_any {A : Option Addr} {bs : List Nat} (x n cap : Nat) (w : World) (hn : bs.length = n) (hm : n ≤ 8192) (hc : n ≤ cap) (hs : Src w A (bts bs)) (hb : ∀ b ∈ bs, b < 256) :
    Calls Try.prog 156 #[.slice A n cap, .int .i64 x] w (StRAns w bs x) := by
  by_cases hf : faultS bs x = 0
  · exact sread_walk x n cap w hn hm hc hs hb hf
  · exact sread_fault x n cap w hn hs hb hf
theorem msrc_of {W : World} {g : Nat} {L : List MissM} {cs : Array Value} (h : Row W g 315 cs) (e : cs = (mcells L).toArray) : MSrc W (some ⟨g, 0, none⟩) L := by
  subst e
  intro _
  refine ⟨g, 0, rfl, fun k m hm => ?_⟩
  obtain ⟨a, b, c, d⟩ := mcells_at hm
  rw [Nat.zero_add]
  exact ⟨h.read (by simpa using a), h.read (by simpa using b), h.read (by simpa using c), h.read (by simpa using d)⟩
theorem sal1 (W : World) : Calls Try.prog 243 #[.agg #[.int .i64 5, .slice none 0 0], .int .i64 10] W fun e w' => ∃ g, e = .returned (.tuple #[.slice (some ⟨g, 0, none⟩) 2 2, .int .i64 0]) ∧ W.heap.size ≤ g ∧ Row w' g 5 (bts [0, 20]).toArray ∧ Below W.heap.size W w' := by
  have h := stwrite_ok (A := none) (L := []) 5 10 0 0 W rfl (fun h => absurd h (by decide)) (by decide +kernel)
  unfold StWAns at h
  rw [show stBytes ((5 : Nat) : Int) [] 10 = [0, 20] from by decide +kernel] at h
  exact h
def L2 : List MissM := [⟨3, true, 2, 0⟩, ⟨7, false, 0, 0⟩]
theorem right2 : rightB ((9 : Nat) : Int) L2 ((16 : Nat) : Int) = true := by decide +kernel
theorem sal2 {W : World} {g : Nat} (h : Row W g 315 #[.int .i64 3, .bool true, .int .i64 2, .int .i64 0, .int .i64 7, .bool false, .int .i64 0, .int .i64 0]) :
    Calls Try.prog 243 #[.agg #[.int .i64 9, .slice (some ⟨g, 0, none⟩) 2 2], .int .i64 16] W (StWAns W 9 L2 16) :=
  stwrite_ok (A := some ⟨g, 0, none⟩) (L := L2) 9 16 2 2 W rfl (msrc_of h rfl) right2
theorem sal3 {W : World} {g : Nat} (h : Row W g 5 (bts (stBytes 9 L2 16)).toArray) :
    Calls Try.prog 156 #[.slice (some ⟨g, 0, none⟩) (stBytes 9 L2 16).length (stBytes 9 L2 16).length, .int .i64 16] W fun e w' => ∃ b o c, e = .returned (.tuple #[.agg #[.int .i64 9, .slice (some ⟨b, o, none⟩) 2 c], .int .i64 0]) ∧ w'.cell? ⟨b, o, none⟩ = some (.int .i64 3) ∧ w'.cell? ⟨b, o + 1, none⟩ = some (.bool true) ∧ w'.cell? ⟨b, o + 2, none⟩ = some (.int .i64 2) ∧ w'.cell? ⟨b, o + 3, none⟩ = some (.int .i64 0) ∧ Below W.heap.size W w' := by
  have hl := st_len right2
  have hb : statusF ((9 : Nat) : Int) L2 ((16 : Nat) : Int) = 12 := by decide +kernel
  rw [hb] at hl
  refine (sread_any (bs := stBytes 9 L2 16) 16 _ _ W rfl (by have : ((stBytes 9 L2 16).length : Int) = 12 := hl; omega) (Nat.le_refl _) (row_src h) (pack_small _)).mono ?_
  rintro e w' ⟨h1, h2, _⟩
  have hk : stRd (stBytes 9 L2 16) 16 = (0, 9, L2) := st_back right2
  rw [hk] at h2
  obtain ⟨A, c, rfl, _, _, hs⟩ := h2 rfl
  obtain ⟨b, o, rfl, hc⟩ := hs (by decide)
  obtain ⟨c0, c1, c2, c3⟩ := hc 0 _ rfl
  simp only [Nat.zero_mul, Nat.add_zero] at c0 c1 c2 c3
  exact ⟨b, o, c, rfl, c0, c1, c2, c3, h1⟩
theorem sal4 {W : World} {g : Nat} (h : Row W g 5 #[.int .u8 128]) :
    Calls Try.prog 156 #[.slice (some ⟨g, 0, none⟩) 1 1, .int .i64 10] W fun e w' => e = .returned (.tuple #[.agg #[.int .i64 0, .slice none 0 0], .int .i64 4]) ∧ Below W.heap.size W w' := by
  refine (sread_any (bs := [128]) 10 1 1 W rfl (by omega) (by omega) (row_src (xs := bts [128]) h) (by decide)).mono ?_
  rintro e w' ⟨h1, _, h2⟩
  have hk : stRd [128] 10 = (4, 0, []) := by kernel_rfl
  rw [hk] at h2
  exact ⟨h2 (by decide), h1⟩
theorem sal5 {W : World} {g : Nat} (h : Row W g 315 #[.int .i64 0, .bool false, .int .i64 1, .int .i64 0]) :
    Calls Try.prog 243 #[.agg #[.int .i64 0, .slice (some ⟨g, 0, none⟩) 1 1], .int .i64 10] W fun e w' => e = .returned (.tuple #[.slice none 0 0, .int .i64 3]) ∧ Below W.heap.size W w' :=
  stwrite_bad (A := some ⟨g, 0, none⟩) (L := [⟨0, false, 1, 0⟩]) 0 10 1 1 W rfl (by omega) (msrc_of h rfl) (by decide +kernel)
end Go.Proofs.Ytfgjlhklioijmaa
namespace Go.Proofs.Ytfgjlhklioijmaa
open Go.RowKit

end Go.Proofs.Ytfgjlhklioijmaa
namespace Go.Proofs.Ytfgjlhklioijmaa
open Go.RowKit

end Go.Proofs.Ytfgjlhklioijmaa
namespace Go.Proofs.Ytfgjlhklioijmaa


def okAt (n k m : Nat) : Bool := decide (1 ≤ m) && decide (m ≤ if k + 1 = n then 4000 else 2047)
/-- the first k of these lengths may be -/
def okTo (ls : List Nat) (k : Nat) : Bool := (List.range k).all fun j => okAt ls.length j (ls.getD j 0)
theorem okTo_zero (ls : List Nat) : okTo ls 0 = true := rfl
theorem okTo_succ (ls : List Nat) (k : Nat) : okTo ls (k + 1) = (okTo ls k && okAt ls.length k (ls.getD k 0)) := by
  unfold okTo
  rw [List.range_succ, List.all_append]
  simp
theorem okTo_at {ls : List Nat} {k m : Nat} (h : ls[k]? = some m) (h0 : okTo ls k = true) : okTo ls (k + 1) = okAt ls.length k m := by
  rw [okTo_succ, h0, List.getD_eq_getElem?_getD, h]
  rfl
theorem okTo_later {ls : List Nat} {k n : Nat} (h : okTo ls k = false) (hk : k ≤ n) : okTo ls n = false := by
  rw [← Bool.not_eq_true] at h ⊢
  intro h1
  apply h
  unfold okTo at *
  rw [List.all_eq_true] at *
  intro j hj
  exact h1 j (by rw [List.mem_range] at *; omega)
theorem okAt_small {n k m : Nat} (h : okAt n k m = true) : 1 ≤ m ∧ m ≤ 4000 ∧ (k + 1 ≠ n → m ≤ 2047) := by
  unfold okAt at h
  rw [Bool.and_eq_true, decide_eq_true_iff, decide_eq_true_iff] at h
  obtain ⟨h1, h2⟩ := h
  by_cases hk : k + 1 = n
  · rw [if_pos hk] at h2
    exact ⟨h1, h2, fun h => absurd hk h⟩
  · rw [if_neg hk] at h2
    exact ⟨h1, by omega, fun _ => h2⟩
theorem okTo_small {ls : List Nat} (h : okTo ls ls.length = true) {k m : Nat} (hm : ls[k]? = some m) : 1 ≤ m ∧ m ≤ 4000 ∧ (k + 1 ≠ ls.length → m ≤ 2047) := by
  have hk : k < ls.length := (List.getElem?_eq_some_iff.1 hm).1
  unfold okTo at h
  rw [List.all_eq_true] at h
  have h1 := h k (by rw [List.mem_range]; exact hk)
  rw [List.getD_eq_getElem?_getD, hm] at h1
  exact okAt_small h1
def sumTo (ls : List Nat) (k : Nat) : Nat := (ls.take k).sum
theorem sumTo_zero (ls : List Nat) : sumTo ls 0 = 0 := by simp [sumTo]
theorem sumTo_all (ls : List Nat) : sumTo ls ls.length = ls.sum := by simp [sumTo]
theorem sumTo_succ {ls : List Nat} {k m : Nat} (h : ls[k]? = some m) : sumTo ls (k + 1) = sumTo ls k + m := by
  obtain ⟨hk, rfl⟩ := List.getElem?_eq_some_iff.1 h
  unfold sumTo
  rw [List.take_succ_eq_append_getElem hk, List.sum_append]
  simp
theorem sumTo_le (ls : List Nat) (k : Nat) : sumTo ls k ≤ ls.sum := by
  have h := List.take_append_drop k ls
  have h1 : ls.sum = (ls.take k).sum + (ls.drop k).sum := by rw [← List.sum_append, h]
  unfold sumTo
  omega
theorem sumTo_bound {ls : List Nat} {k : Nat} (h : okTo ls k = true) (hk : k ≤ ls.length) : sumTo ls k ≤ 4000 * k := by
  induction k with
  | zero => simp [sumTo]
  | succ k ih =>
    have hm : ls[k]? = some ls[k] := List.getElem?_eq_getElem (by omega)
    rw [okTo_succ, Bool.and_eq_true, List.getD_eq_getElem?_getD, hm] at h
    have h1 := okAt_small h.2
    have h2 := ih h.1 (by omega)
    rw [sumTo_succ hm]
    simp only [Option.getD_some] at h1
    omega

/-- how many bytes fields have, with their lengths; 0: they may not be -/
def szF (ls : List Nat) (wd : Int) : Int := if 1 ≤ ls.length ∧ ls.length ≤ 24 ∧ okTo ls ls.length = true then sizeF ((ls.length : Int) - 1) wd + ls.sum else 0
/-- .. behind a head, at most 4000 in all -/
def fieldsF (ls : List Nat) (head wd : Int) : Int := if 1 ≤ ls.length ∧ ls.length ≤ 24 ∧ okTo ls ls.length = true ∧ head + sizeF ((ls.length : Int) - 1) wd + ls.sum ≤ 4000 then head + sizeF ((ls.length : Int) - 1) wd + ls.sum else 0
theorem sizeF_nonneg (n x : Int) : 0 ≤ sizeF n x ∧ sizeF n x ≤ 46 := by
  unfold sizeF
  split
  · rename_i h
    rw [Bool.and_eq_true, Bool.and_eq_true, decide_eq_true_iff, decide_eq_true_iff] at h
    obtain ⟨h1, h2, h3⟩ := h
    rcases okW_nat h1 with rfl | rfl <;> omega
  · omega
theorem szF_pos {ls : List Nat} {wd : Int} : (szF ls wd = 0 ∧ ¬ (1 ≤ ls.length ∧ ls.length ≤ 24 ∧ okTo ls ls.length = true)) ∨ (szF ls wd = sizeF ((ls.length : Int) - 1) wd + ls.sum ∧ 1 ≤ szF ls wd ∧ szF ls wd ≤ 100000 ∧ 1 ≤ ls.length ∧ ls.length ≤ 24 ∧ okTo ls ls.length = true) := by
  unfold szF
  split
  · rename_i h
    right
    obtain ⟨h1, h2, h3⟩ := h
    have h4 := sumTo_bound h3 (Nat.le_refl _)
    rw [sumTo_all] at h4
    have h5 := sizeF_nonneg ((ls.length : Int) - 1) wd
    have h6 : 1 ≤ ls.sum := by
      have hm : ls[0]? = some ls[0] := List.getElem?_eq_getElem (by omega)
      have h7 := okTo_small h3 hm
      have h8 := sumTo_succ hm
      have h9 := sumTo_le ls (0 + 1)
      omega
    exact ⟨rfl, by omega, by omega, h1, h2, h3⟩
  · exact .inl ⟨rfl, by assumption⟩
/-- the code's way to it -/
theorem fieldsF_code (ls : List Nat) (head wd : Int) : fieldsF ls head wd = if szF ls wd = 0 ∨ 4000 < head + szF ls wd then 0 else head + szF ls wd := by
  rcases szF_pos (ls := ls) (wd := wd) with ⟨h1, h2⟩ | ⟨h1, h2, h3, h4, h5, h6⟩
  · rw [if_pos (.inl h1)]
    unfold fieldsF
    rw [if_neg (fun h => h2 ⟨h.1, h.2.1, h.2.2.1⟩)]
  · unfold fieldsF
    by_cases h7 : 4000 < head + szF ls wd
    · rw [if_neg (fun h => by omega), if_pos (.inr h7)]
    · rw [if_pos ⟨h4, h5, h6, by omega⟩, if_neg (by omega)]
      omega
end Go.Proofs.Ytfgjlhklioijmaa
namespace Go.Proofs.Ytfgjlhklioijmaa
open Go.RowKit

theorem Try.info4 : (Try.prog.info? 4).map (fun i => (i.zero, i.size, i.bytes)) = some (some (.bool false), 1, 1) := by kernel_rfl
/-- bits as values -/
def bls (l : List Bool) : List Value := l.map Value.bool
theorem length_bls (l : List Bool) : (bls l).length = l.length := by simp [bls]
theorem bls_append (l k : List Bool) : bls (l ++ k) = bls l ++ bls k := by simp [bls]
theorem bls_at {l : List Bool} {i : Nat} {b : Bool} (h : l[i]? = some b) : (bls l)[i]? = some (.bool b) := by simp [bls, h]
theorem bls_one (l : List Bool) : ∀ v ∈ bls l, v.oneCell' = true := by
  intro v hv
  simp only [bls, List.mem_map] at hv
  obtain ⟨b, _, rfl⟩ := hv
  rfl

set_option maxHeartbeats 400000 in
theorem fits_neg (v n : Int) (w : World) (h : n < 0 ∨ 64 < n) : Calls Try.prog 235 #[.int .u64 v, .int .i64 n] w fun e w' => e = .returned (.bool false) ∧ w = w' := by
  by_cases h1 : n < 0
  · clear h
    go_enter Try.func235, Try.ntmps235
    go_wp2
    go_ret
    exact ⟨rfl, rfl⟩
  · have h2 : 64 < n := by omega
    clear h
    go_enter Try.func235, Try.ntmps235
    go_wp2
    go_ret
    exact ⟨rfl, rfl⟩

theorem nat_eq0 (q : Nat) : ((q : Int) == 0) = (q == 0) := by
  rw [Bool.eq_iff_iff, beq_iff_eq, beq_iff_eq]
  omega
theorem ret_u64 {q q' : Nat} (h : q / 2 = q') : Value.int .u64 ((q : Int) / 2) = .int .u64 (q' : Int) := by
  subst h
  simp
theorem half_pow (v k : Nat) : v / 2 ^ k / 2 = v / 2 ^ (k + 1) := by rw [Nat.div_div_eq_div_mul, ← Nat.pow_succ]

set_option maxHeartbeats 800000 in
theorem fits_nat (v n : Nat) (w : World) (hn : n ≤ 64) (hv : v < 18446744073709551616) : Calls Try.prog 235 #[.int .u64 v, .int .i64 n] w fun e w' => e = .returned (.bool (v / 2 ^ n == 0)) ∧ w = w' := by
  go_enter Try.func235, Try.ntmps235
  go_wp2
  go_loopw [0, 5] (fun x i wr => ∃ k : Nat, k ≤ n ∧ x = .int .u64 ((v / 2 ^ k : Nat) : Int) ∧ i = .int .i64 k ∧ w = wr) (fun _ i _ => n - (intOf i).toNat)
  case atStart => exact ⟨0, by omega, by simp, rfl, rfl⟩
  case round =>
    obtain ⟨k, hk, rfl, rfl, rfl⟩ := hrel
    have hh := Lib.hid (half_pow v k)
    have hle : v / 2 ^ k ≤ v := Nat.div_le_self _ _
    generalize hq : v / 2 ^ k = q at *
    have HQ := Lib.hid hq
    clear hq
    by_cases hlt : k < n
    · go_wp2
      go_roundw
      case rel => exact ⟨k + 1, by omega, ret_u64 hh.out, by go_num, trivial⟩
      case measure => simp [intOf]; omega
    · obtain rfl : k = n := by omega
      go_wp2
      go_ret
      refine ⟨ret_bool ?_, rfl⟩
      rw [HQ.out]
      exact nat_eq0 q

/-- a number's lowest bits, the lowest first -/
def lows (v n : Nat) : List Bool := (List.range n).map fun j => v / 2 ^ j % 2 == 1
theorem length_lows (v n : Nat) : (lows v n).length = n := by simp [lows]
theorem lows_succ (v n : Nat) : lows v (n + 1) = lows v n ++ [v / 2 ^ n % 2 == 1] := by simp [lows, List.range_succ]
theorem lows_at {v n j : Nat} (h : j < n) : (lows v n)[j]? = some (v / 2 ^ j % 2 == 1) := by simp [lows, h]

/-- a list of bits of the call's own -/
def OwnB (B : Nat) (w : World) (x : Value) (bl : List Bool) : Prop := w.ownsRow B 4 1 x bl.length (bls bl) ∧ (bl = [] → x = .slice none 0 0)
theorem OwnB.nil (B : Nat) (w : World) : OwnB B w (.slice none 0 0) [] := ⟨World.ownsRow_nil _ _ _ _, fun _ => rfl⟩
theorem OwnB.later {B : Nat} {w v : World} {x : Value} {bl : List Bool} (h : OwnB B w x bl) (hb : Below w.heap.size w v) : OwnB B v x bl :=
  ⟨own_only h.1 (S := fun _ => False) (.of_below hb) (fun _ _ h => h), h.2⟩
theorem OwnB.form {B : Nat} {w : World} {x : Value} {bl : List Bool} (h : OwnB B w x bl) : ∃ A c, x = .slice A bl.length c := by
  rcases h.1.2 with ⟨rfl, h0⟩ | ⟨g, c, cur, rfl, _⟩
  · exact ⟨none, 0, by rw [h0]⟩
  · exact ⟨_, c, rfl⟩

theorem run_append_none {P : Program} (w : World) (t ty e : TypeId) (i : TypeInfo) (ht : P.underlying t = some (.slice e)) (hi : P.info? e = some i) :
    (Builtin.append_ #[t, t] ty #[.slice none 0 0, .slice none 0 0]).run P w = .ok (.slice none 0 0) w := by
  simp [Builtin.append_, run_underlying ht, sizeOf, typeInfo, hi, Builtin.lenOf, Builtin.firstCells]
theorem wpList_append_none {P : Program} (w : World) {ops : Array Oper} {rest : List Oper} {o : Oper} {a : Act} {Q : Exit → Act → World → Prop} (hgd : o.guard = none) (s x : Operand) (t : TypeId)
    (ho : o.op = .call { callee := .builtin .append, args := #[s, x], argTypes := #[t, t] }) (e : TypeId) (i : TypeInfo) (ht : P.underlying t = some (.slice e)) (hi : P.info? e = some i)
    (hs : a.eval s = .slice none 0 0) (hx : a.eval x = .slice none 0 0) (h : wpList P ops Q rest (a.put o.dst (.slice none 0 0)) w) : wpList P ops Q (o :: rest) a w := by
  refine wpList_plain hgd fun K hK => ?_
  unfold Oper.wp execOp
  simp only [ho, resolve, invoke, builtin, Sem.run_bind, Sem.run_pure, Result.andThen_ok, List.map_toArray, List.map_cons, List.map_nil, hs, hx, run_append_none w t o.type e i ht hi]
  exact hK _ _ h

set_option maxHeartbeats 800000 in
theorem refput_bad {V : Nat} {N : Int} (x : Value) (w : World) (h : ¬ (0 ≤ N ∧ N ≤ 64 ∧ V < 2 ^ N.toNat)) (hv : V < 18446744073709551616) :
    Calls Try.prog 143 #[x, .int .u64 V, .int .i64 N] w fun e w' => e = .returned (.tuple #[x, .int .i64 1]) ∧ w = w' := by
  have hf : Calls Try.prog 235 #[.int .u64 V, .int .i64 N] w fun e w' => e = .returned (.bool false) ∧ w = w' := by
    by_cases h1 : 0 ≤ N ∧ N ≤ 64
    · obtain ⟨n, rfl⟩ : ∃ n : Nat, N = n := ⟨N.toNat, by omega⟩
      rw [Int.toNat_natCast] at h
      have h2 : 2 ^ n ≤ V := by
        rcases Nat.lt_or_ge V (2 ^ n) with h2 | h2
        · exact absurd ⟨h1.1, h1.2, h2⟩ h
        · exact h2
      have h3 := fits_nat V n w (by omega) hv
      have h4 : 1 ≤ V / 2 ^ n := (Nat.one_le_div_iff (Nat.two_pow_pos n)).2 h2
      have h5 : (V / 2 ^ n == 0) = false := by simp; omega
      rw [h5] at h3
      exact h3
    · exact fits_neg V N w (by omega)
  have HF := Lib.hid hf
  clear h hf hv
  go_enter Try.func143, Try.ntmps143
  go_wp2_with (go_at_call 235; refine HF.out.mono ?_; rintro e w1 ⟨rfl, rfl⟩)
  exact bodyPost_ret (v := .tuple #[x, .int .i64 1]) (by simp [results, Try.results143, go_sem]) rfl ⟨rfl, rfl⟩

theorem low_bit (v j : Nat) : (((v / 2 ^ j : Nat) : Int) % 2 == 1) = (v / 2 ^ j % 2 == 1) := by
  rw [Bool.eq_iff_iff, beq_iff_eq, beq_iff_eq]
  omega

set_option maxRecDepth 100000 in
set_option maxHeartbeats 3200000 in
theorem refput_ok {B : Nat} {w : World} {x : Value} {bl : List Bool} (v n : Nat) (hx : OwnB B w x bl) (hn : n ≤ 64) (h : v < 2 ^ n) (hl : bl.length + n ≤ 65536) (hv : v < 18446744073709551616) :
    Calls Try.prog 143 #[x, .int .u64 v, .int .i64 n] w fun e w' => ∃ x', e = .returned (.tuple #[x', .int .i64 0]) ∧ OwnB w.heap.size w' x' (bl ++ unval v n) ∧ Below w.heap.size w w' := by
  have hf := fits_nat v n w hn hv
  rw [Nat.div_eq_of_lt h] at hf
  have HF := Lib.hid hf
  obtain ⟨i0, hi, hi0, hi1, hi2⟩ := info_parts Try.info4
  obtain ⟨A, c, rfl⟩ := hx.form
  have HX := Lib.hid hx
  clear hf hx h
  go_enter Try.func143, Try.ntmps143
  go_wp2_with (go_at_call 235; refine HF.out.mono ?_; rintro e w1 ⟨rfl, rfl⟩)
  go_loopw [1, 8, 10] (fun y o i wr => ∃ k : Nat, k ≤ n ∧ y = .int .u64 ((v / 2 ^ k : Nat) : Int) ∧ i = .int .i64 k ∧ wr.ownsRow w.heap.size 4 1 o k (bls (lows v k)) ∧ Below w.heap.size w wr) (fun _ _ i _ => n - (intOf i).toNat)
  case atStart => exact ⟨0, by omega, by simp, rfl, World.ownsRow_nil _ _ _ _, Below.refl _ _⟩
  case round =>
    obtain ⟨k, hk, rfl, rfl, hown, hbr⟩ := hrel
    have HO := Lib.hid hown
    have HB := Lib.hid hbr
    clear hown hbr
    by_cases hlt : k < n
    · have hh := Lib.hid (half_pow v k)
      have hle : v / 2 ^ k ≤ v := Nat.div_le_self _ _
      have hbit := low_bit v k
      have hls := Lib.hid (lows_succ v k)
      generalize hq : v / 2 ^ k = q at *
      clear hq
      go_wp2_with (at_builtin; refine wpList_append_lies _ rfl _ _ _ (by rfl) w.heap.size 4 i0 (.bool false) 1 1 Try.underlying69 hi hi0 hi1 hi2 rfl (by omega) u8 k _ (by rfl) (HO.out.alloc _) ⟨wr.heap.size, 0, none⟩ 1 1 [.bool (q % 2 == 1)] (by rfl) (by rfl) ?h1 ?h2 ?h3 ?h4 ?h5 ?h6 (wr.heap.size + 1) ?h7 ?_)
      case h1 => exact cell_one_new _ _ _
      case h2 => intro u hu; simp at hu; subst hu; rfl
      case h3 => omega
      case h4 => unfold maxLen; omega
      case h5 => omega
      case h6 => have := HB.out.size; simp; omega
      case h7 => simp
      intro g cap w2 hown2 hgrow _ _
      have hb2 : Below w.heap.size w w2 := (HB.out.alloc HB.out.size _).grown hgrow (by have := HB.out.size; simp; omega) (fun r hr => (HO.out.lt r hr).1)
      have hown3 : w2.ownsRow w.heap.size 4 1 (.slice (some ⟨g, 0, none⟩) (k + 1) cap) (k + 1) (bls (lows v (k + 1))) := by rw [hls.out, bls_append]; exact hown2
      have HO2 := Lib.hid hown3
      have HB2 := Lib.hid hb2
      clear hown2 hgrow hown3 hb2
      go_wp2
      go_roundw
      case rel => exact ⟨k + 1, by omega, ret_u64 hh.out, by go_num, HO2.out, HB2.out⟩
      case measure => simp [intOf]; omega
    · obtain rfl : n = k := by omega
      have hv8 : ∃ A8 c8, u8 = .slice A8 n c8 := by
        rcases HO.out.2 with ⟨rfl, h0⟩ | ⟨g, c, cur, rfl, _⟩
        · exact ⟨none, 0, by rw [h0]⟩
        · exact ⟨_, c, rfl⟩
      obtain ⟨A8, c8, rfl⟩ := hv8
      clear hlt hk
      by_cases hb : bl = []
      · subst hb
        have e0 := HX.out.2 rfl
        injection e0 with e1 _ e2
        subst e1
        subst e2
        go_wp2_with (at_builtin; refine wpList_append_none _ rfl _ _ _ (by rfl) 4 i0 Try.underlying69 hi (by rfl) (by rfl) ?_)
        go_loopw [9, 11] (fun o i wq => ∃ (m : Nat) (z : Int), m ≤ n ∧ z + 1 = m ∧ i = .int .i64 z ∧ OwnB w.heap.size wq o (([] : List Bool) ++ unval (v / 2 ^ m) (n - m)) ∧ wq.ownsRow w.heap.size 4 1 (.slice A8 n c8) n (bls (lows v n)) ∧ (∀ r, o.ownBlock = some r → (Value.slice A8 n c8).ownBlock ≠ some r) ∧ Below w.heap.size w wq) (fun _ i _ => (intOf i + 1).toNat)
        case atStart => exact ⟨n, (n : Int) - 1, by omega, by omega, rfl, by rw [Nat.sub_self]; exact OwnB.nil _ _, HO.out, (fun r hr => by simp [Value.ownBlock] at hr), HB.out⟩
        case round =>
          obtain ⟨m, z, hm, hz, rfl, hout, hlow, hap, hbq⟩ := hrel
          have HOUT := Lib.hid hout
          have HLOW := Lib.hid hlow
          have HAP := Lib.hid hap
          have HBQ := Lib.hid hbq
          clear hout hlow hap hbq HO HB HX
          rcases Nat.eq_zero_or_pos m with h0 | h0
          · subst h0
            obtain rfl : z = -1 := by omega
            go_wp2
            refine bodyPost_ret (v := .tuple #[u9, .int .i64 0]) (by simp [results, Try.results143, go_sem]) rfl ⟨_, rfl, ?_, HBQ.out⟩
            have h1 := HOUT.out
            rw [Nat.pow_zero, Nat.div_one, Nat.sub_zero] at h1
            exact h1
          · obtain ⟨j, rfl⟩ : ∃ j, m = j + 1 := ⟨m - 1, by omega⟩
            obtain rfl : z = (j : Int) := by omega
            obtain ⟨g8, c8', e8, _, _⟩ := HLOW.out.form (by omega)
            injection e8 with e8 _ e9
            subst e8
            subst e9
            have hc := (HLOW.out.cellAt j (by omega)).trans (bls_at (lows_at (v := v) (show j < n by omega)))
            have hj0 : (0 : Int) ≤ (j : Int) := by omega
            have hj1 : (j : Int) < (n : Int) := by omega
            have hnext : (([] : List Bool) ++ unval (v / 2 ^ (j + 1)) (n - (j + 1))) ++ [v / 2 ^ j % 2 == 1] = ([] : List Bool) ++ unval (v / 2 ^ j) (n - j) := by
              have e1 : n - j = n - (j + 1) + 1 := by omega
              rw [e1, unval, half_pow, List.append_assoc]
            have hlen : (([] : List Bool) ++ unval (v / 2 ^ (j + 1)) (n - (j + 1))).length < 65536 := by
              rw [List.length_append, length_unval]
              omega
            generalize ([] : List Bool) ++ unval (v / 2 ^ (j + 1)) (n - (j + 1)) = cur at *
            generalize (v / 2 ^ j % 2 == 1) = bit at *
            have HN := Lib.hid hnext
            clear hnext
            go_wp2_with (at_builtin; go_loud (refine wpList_append_lies _ rfl _ _ _ (by rfl) w.heap.size 4 i0 (.bool false) 1 1 Try.underlying69 hi hi0 hi1 hi2 rfl (by omega) u9 cur.length _ (by rfl) (HOUT.out.1.alloc _) ⟨wr.heap.size, 0, none⟩ 1 1 [.bool bit] (by rfl) (by rfl) (cell_one_new _ _ _) (fun u hu => by simp at hu; subst hu; rfl) (by omega) (by unfold maxLen; omega) (by omega) (by have := HBQ.out.size; simp; omega) (wr.heap.size + 1) (by simp) ?_))
            intro g cap w2 hown2 hgrow hgg _
            have hb2 : Below w.heap.size w w2 := (HBQ.out.alloc HBQ.out.size _).grown hgrow (by have := HBQ.out.size; simp; omega) (fun r hr => (HOUT.out.1.lt r hr).1)
            have hlow2 := own_only HLOW.out ((((Only.refl (fun k => u9.ownBlock = some k) wr).alloc _).grown hgrow (fun k hk => .inl hk))) (fun k hk hk' => HAP.out k hk' hk)
            have h8 := (HLOW.out.lt g8 rfl).2
            have hap2 : ∀ r, (Value.slice (some ⟨g, 0, none⟩) (cur.length + 1) cap).ownBlock = some r → (Value.slice (some ⟨g8, 0, none⟩) n c8).ownBlock ≠ some r := by
              intro r hr
              have : g = r := by simpa [Value.ownBlock] using hr
              subst this
              rcases hgg with h | h
              · exact HAP.out g h
              · intro h'
                have : g8 = g := by simpa [Value.ownBlock] using h'
                omega
            have hout2 : OwnB w.heap.size w2 (.slice (some ⟨g, 0, none⟩) (cur.length + 1) cap) (([] : List Bool) ++ unval (v / 2 ^ j) (n - j)) := by
              rw [← HN.out]
              refine ⟨?_, fun h => by simp at h⟩
              rw [List.length_append, bls_append]
              exact hown2
            have H2 := Lib.hid (And.intro hout2 (And.intro hlow2 (And.intro hap2 hb2)))
            clear hout2 hlow2 hap2 hb2 hown2 hgrow hgg hc h8
            go_wp2
            go_roundw
            case rel => exact ⟨j, (j : Int) - 1, by omega, by omega, by go_num, H2.out⟩
            case measure => simp [intOf]
      · have hpos : 0 < bl.length := List.length_pos_iff.2 hb
        obtain ⟨g0, cap0, e0, _, _⟩ := HX.out.1.form hpos
        injection e0 with e1 _ _
        subst e1
        have HXR := Lib.hid (HX.out.later (show Below w.heap.size w wr from HB.out))
        go_wp2_with (at_builtin; refine wpList_append_lies _ rfl _ _ _ (by rfl) w.heap.size 4 i0 (.bool false) 1 1 Try.underlying69 hi hi0 hi1 hi2 rfl (by omega) (.slice none 0 0) 0 [] (by rfl) (World.ownsRow_nil _ _ _ _) ⟨g0, 0, none⟩ bl.length c (bls bl) (by rfl) (by rw [length_bls, Nat.mul_one]) (HXR.out.1.cells (g := g0) rfl) (bls_one bl) hpos (by unfold maxLen; omega) (by omega) HB.out.size wr.heap.size rfl ?_)
        intro g cap w1 hown1 hgrow1 hgg1 _
        have hb1 : Below w.heap.size w w1 := HB.out.grown hgrow1 HB.out.size (fun r hr => by simp [Value.ownBlock] at hr)
        have hlow1 := own_only HO.out ((Only.refl (fun _ => False) wr).grown hgrow1 (fun k hk => by simp [Value.ownBlock] at hk)) (fun _ _ h => h)
        have hap1 : ∀ r, (Value.slice (some ⟨g, 0, none⟩) (bl.length) cap).ownBlock = some r → (Value.slice A8 n c8).ownBlock ≠ some r := by
          intro r hr
          have : g = r := by simpa [Value.ownBlock] using hr
          subst this
          rcases hgg1 with h | h
          · simp [Value.ownBlock] at h
          · intro h'
            have := (HO.out.lt g h').2
            omega
        have hout1 : OwnB w.heap.size w1 (.slice (some ⟨g, 0, none⟩) (bl.length) cap) (bl ++ unval (v / 2 ^ n) (n - n)) := by
          rw [Nat.sub_self, unval, List.append_nil]
          refine ⟨?_, fun h => absurd h hb⟩
          exact hown1
        have H1 := Lib.hid (And.intro hout1 (And.intro hlow1 (And.intro hap1 hb1)))
        clear hout1 hlow1 hap1 hb1 hown1 hgrow1 hgg1 HXR
        go_wp2_with fail
        go_loopw [9, 11] (fun o i wq => ∃ (m : Nat) (z : Int), m ≤ n ∧ z + 1 = m ∧ i = .int .i64 z ∧ OwnB w.heap.size wq o (bl ++ unval (v / 2 ^ m) (n - m)) ∧ wq.ownsRow w.heap.size 4 1 (.slice A8 n c8) n (bls (lows v n)) ∧ (∀ r, o.ownBlock = some r → (Value.slice A8 n c8).ownBlock ≠ some r) ∧ Below w.heap.size w wq) (fun _ i _ => (intOf i + 1).toNat)
        case atStart => exact ⟨n, (n : Int) - 1, by omega, by omega, rfl, H1.out⟩
        case round =>
          obtain ⟨m, z, hm, hz, rfl, hout, hlow, hap, hbq⟩ := hrel
          have HOUT := Lib.hid hout
          have HLOW := Lib.hid hlow
          have HAP := Lib.hid hap
          have HBQ := Lib.hid hbq
          clear hout hlow hap hbq HO HB HX
          rcases Nat.eq_zero_or_pos m with h0 | h0
          · subst h0
            obtain rfl : z = -1 := by omega
            go_wp2
            refine bodyPost_ret (v := .tuple #[u9, .int .i64 0]) (by simp [results, Try.results143, go_sem]) rfl ⟨_, rfl, ?_, HBQ.out⟩
            have h1 := HOUT.out
            rw [Nat.pow_zero, Nat.div_one, Nat.sub_zero] at h1
            exact h1
          · obtain ⟨j, rfl⟩ : ∃ j, m = j + 1 := ⟨m - 1, by omega⟩
            obtain rfl : z = (j : Int) := by omega
            obtain ⟨g8, c8', e8, _, _⟩ := HLOW.out.form (by omega)
            injection e8 with e8 _ e9
            subst e8
            subst e9
            have hc := (HLOW.out.cellAt j (by omega)).trans (bls_at (lows_at (v := v) (show j < n by omega)))
            have hj0 : (0 : Int) ≤ (j : Int) := by omega
            have hj1 : (j : Int) < (n : Int) := by omega
            have hnext : (bl ++ unval (v / 2 ^ (j + 1)) (n - (j + 1))) ++ [v / 2 ^ j % 2 == 1] = bl ++ unval (v / 2 ^ j) (n - j) := by
              have e1 : n - j = n - (j + 1) + 1 := by omega
              rw [e1, unval, half_pow, List.append_assoc]
            have hlen : (bl ++ unval (v / 2 ^ (j + 1)) (n - (j + 1))).length < 65536 := by
              rw [List.length_append, length_unval]
              omega
            generalize bl ++ unval (v / 2 ^ (j + 1)) (n - (j + 1)) = cur at *
            generalize (v / 2 ^ j % 2 == 1) = bit at *
            have HN := Lib.hid hnext
            clear hnext
            go_wp2_with (at_builtin; go_loud (refine wpList_append_lies _ rfl _ _ _ (by rfl) w.heap.size 4 i0 (.bool false) 1 1 Try.underlying69 hi hi0 hi1 hi2 rfl (by omega) u9 cur.length _ (by rfl) (HOUT.out.1.alloc _) ⟨wr.heap.size, 0, none⟩ 1 1 [.bool bit] (by rfl) (by rfl) (cell_one_new _ _ _) (fun u hu => by simp at hu; subst hu; rfl) (by omega) (by unfold maxLen; omega) (by omega) (by have := HBQ.out.size; simp; omega) (wr.heap.size + 1) (by simp) ?_))
            intro g cap w2 hown2 hgrow hgg _
            have hb2 : Below w.heap.size w w2 := (HBQ.out.alloc HBQ.out.size _).grown hgrow (by have := HBQ.out.size; simp; omega) (fun r hr => (HOUT.out.1.lt r hr).1)
            have hlow2 := own_only HLOW.out ((((Only.refl (fun k => u9.ownBlock = some k) wr).alloc _).grown hgrow (fun k hk => .inl hk))) (fun k hk hk' => HAP.out k hk' hk)
            have h8 := (HLOW.out.lt g8 rfl).2
            have hap2 : ∀ r, (Value.slice (some ⟨g, 0, none⟩) (cur.length + 1) cap).ownBlock = some r → (Value.slice (some ⟨g8, 0, none⟩) n c8).ownBlock ≠ some r := by
              intro r hr
              have : g = r := by simpa [Value.ownBlock] using hr
              subst this
              rcases hgg with h | h
              · exact HAP.out g h
              · intro h'
                have : g8 = g := by simpa [Value.ownBlock] using h'
                omega
            have hout2 : OwnB w.heap.size w2 (.slice (some ⟨g, 0, none⟩) (cur.length + 1) cap) (bl ++ unval (v / 2 ^ j) (n - j)) := by
              rw [← HN.out]
              refine ⟨?_, fun h => by simp at h⟩
              rw [List.length_append, bls_append]
              exact hown2
            have H2 := Lib.hid (And.intro hout2 (And.intro hlow2 (And.intro hap2 hb2)))
            clear hout2 hlow2 hap2 hb2 hown2 hgrow hgg hc h8
            go_wp2
            go_roundw
            case rel => exact ⟨j, (j : Int) - 1, by omega, by omega, by go_num, H2.out⟩
            case measure => simp [intOf]
end Go.Proofs.Ytfgjlhklioijmaa
