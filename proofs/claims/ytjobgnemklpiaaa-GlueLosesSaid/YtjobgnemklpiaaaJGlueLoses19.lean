/-
  status: a status is written: its bytes, or why it has none. What status answers to fixed calls. status: a status as the document's. status: a status as the document's, walked. status: how the statuses that a statement draws read. StatusBack: the law walked. cut: how many bytes a piece has.
-/
import Derived.Test.YtjobgnemklpiaaaJGlueLoses17
import Derived.Test.YtjobgnemklpiaaaJGlueLoses18
import Derived.Test.YtjobgnemklpiaaaJGlueLoses02
import Derived.Test.YtjobgnemklpiaaaJGlueLoses16
import Derived.Test.YtjobgnemklpiaaaJGlueLoses06
import Derived.SizedLaws
import Derived.Deep.Matrix
import Derived.Lib.SmallJoins
import Derived.OpenShut
import Derived.Deep.Slices
import Derived.Test.YtjobgnemklpiaaaJGlueLoses07
import Derived.Deep.RegionHeld3
namespace Go.Proofs.Ytjobgnemklpiaaa
open Go.RowKit

def StWAns (w : World) (ack : Int) (L : List MissM) (x : Nat) (e : Ending) (w' : World) : Prop :=
  ∃ g, e = .returned (.tuple #[.slice (some ⟨g, 0, none⟩) (stBytes ack L x).length (stBytes ack L x).length, .int .i64 0]) ∧ w.heap.size ≤ g ∧ Row w' g 5 (bts (stBytes ack L x)).toArray ∧ Below w.heap.size w w'
set_option maxRecDepth 100000 in
set_option maxHeartbeats 1600000 in
theorem stwrite_bad {A : Option Addr} {L : List MissM} (ack x : Int) (n cap : Nat) (w : World) (hL : L.length = n) (hn : n ≤ 9223372036854775807) (hs : MSrc w A L) (hb : rightB ack L x = false) :
    Calls Try.prog 109 #[.agg #[.int .i64 ack, .slice A n cap], .int .i64 x] w fun e w' => e = .returned (.tuple #[.slice none 0 0, .int .i64 (if okS x then 3 else 9)]) ∧ Below w.heap.size w w' := by
  have HR := Lib.hid (fun W hb => sright_any ack x n cap W hL hn (hs.later (v := W) hb))
  rw [hb] at HR
  have HM := Lib.hid (fun W => smay_any x W)
  have R1 := Row.made w 81 #[.int .i64 ack, .slice A n cap]
  have c0 := R1.read (i := 0) rfl
  have c1 := R1.read (i := 1) rfl
  clear hs hL hb R1
  cases hx : okS x
  all_goals
    rw [hx] at HM
    clear hx
    go_enter Try.func109, Try.ntmps109
    go_wp2_with (first
      | (go_at_call 146; refine (HM.out _).mono ?_; rintro e w1 ⟨rfl, rfl⟩)
      | (go_at_call 107; refine (HR.out _ (bl_alloc (Below.refl _ _) _)).mono ?_; rintro e w2 ⟨rfl, hb2⟩))
    go_ret2
  · exact ⟨rfl, bl_alloc (Below.refl _ _) _⟩
  · exact ⟨rfl, bl_step (bl_alloc (Below.refl _ _) _) hb2⟩
theorem StW.below {B p : Nat} {w0 w : World} {kp : List (Nat × Nat)} (h : StW B w0 p kp w) : Below B w0 w := h.2.1.1
theorem StW.len_le {ack : Int} {L : List MissM} {x : Nat} (h : rightB ack L x = true) {kp r : List (Nat × Nat)} (e : statusP ack L x = kp ++ r) : (bitsP kp).length ≤ 2000 := by
  have h1 := len_statusP ack L x
  obtain ⟨hx, hok, _, hl, _⟩ := rightB_parts h
  have h2 := (bitsS_bd hok L).2
  rw [e, bitsP_append, List.length_append] at h1
  omega
theorem byt_stw {B p n : Nat} {w0 w : World} {kp : List (Nat × Nat)} (h : StW B w0 p kp w) (ht : (bitsP kp).length ≤ 60000) (hn : (pack (bitsP kp)).length = n) :
    Calls Try.prog 153 #[.pointer (some ⟨p, 0, none⟩)] w fun e w' => ∃ g, e = .returned (.slice (some ⟨g, 0, none⟩) n n) ∧ w.heap.size ≤ g ∧ Row w' g 5 (bts (pack (bitsP kp))).toArray ∧ Below w.heap.size w w' := by
  obtain ⟨⟨sv, hr⟩, _⟩ := h
  have h1 := bytes_any hr (by omega)
  rw [← length_pack, hn] at h1
  exact h1
set_option maxRecDepth 100000 in
set_option maxHeartbeats 3200000 in
theorem stwrite_ok {A : Option Addr} {L : List MissM} (ack x n cap : Nat) (w : World) (hL : L.length = n) (hs : MSrc w A L) (hb : rightB ack L x = true) :
    Calls Try.prog 109 #[.agg #[.int .i64 ack, .slice A n cap], .int .i64 x] w (StWAns w ack L x) := by
  obtain ⟨hx, hok, ha, hl, hall⟩ := rightB_parts hb
  obtain ⟨_, ha1⟩ := (okn_nat hx).1 ha
  rw [Int.toNat_natCast] at ha1
  have HR := Lib.hid (fun W hb => sright_any ack x n cap W hL (by omega) (hs.later (v := W) hb))
  rw [hb] at HR
  have HM := Lib.hid (fun W => smay_any x W)
  rw [hok] at HM
  have ROW0 := Lib.hid (Row.made w 81 #[.int .i64 ack, .slice A n cap])
  have HS := Lib.hid hs
  have HL := Lib.hid hL
  have HX := Lib.hid hx
  have HA := Lib.hid hall
  have HA1 := Lib.hid ha1
  have HRB := Lib.hid hb
  have HLE := Lib.hid (fun kp r e => StW.len_le (kp := kp) (r := r) hb e)
  have hx16 : x ≤ 16 := by omega
  have hn32 : n ≤ 32 := by omega
  have HFULL := Lib.hid (show statusP ack L x = ((([] ++ putsN [0] 4) ++ putsN [ack] x) ++ putsN [(decide (0 < L.length)).toNat] 1) ++ missesP x L by simp [statusP, headP, putsN])
  have R1 := ROW0.out
  have HMORE := Lib.hid (show decide (0 < L.length) = decide (0 < n) by rw [hL])
  clear hs hL hx hall hb hok ha hl ha1 R1
  go_enter Try.func109, Try.ntmps109
  go_wp2_with (first
    | (go_at_call 146; refine (HM.out _).mono ?_; rintro e w1 ⟨rfl, rfl⟩)
    | (go_at_call 107; refine (HR.out _ (bl_alloc (Below.refl _ _) _)).mono ?_; rintro e w2 ⟨rfl, hb2⟩; (have HB2 := Lib.hid (bl_step (bl_alloc (Below.refl w.heap.size w) _) hb2); have ROW2 := Lib.hid (ROW0.out.later hb2); clear hb2))
    | (go_at_call 149; refine (new_any w2.heap.size w2 (Nat.le_refl _)).mono ?_; rintro e w3 ⟨rfl, hr3, hb3⟩; (have ROW3 := Lib.hid (ROW2.out.later hb3); have HB3 := Lib.hid (bl_step HB2.out hb3); have ST0 := Lib.hid (StW.start (B := w2.heap.size) (kp := []) ⟨_, hr3⟩ hb3.size); have HP1 := Lib.hid ((ST0.out.alloc (.cells #[.int .i64 0] 3)).put w3.heap.size [0] 4 1 1 4 rfl (row_at w3 _ 3 #[.int .i64 0] rfl) rfl (by omega) (by omega) (by intro v hv; simp at hv; subst hv; decide) (by simp [bitsP])); clear hr3 hb3))
    | (go_at_call 150; (with_reducible refine HP1.out.mono ?_); rintro e w4 ⟨rfl, h4⟩; (have ST1 := Lib.hid h4; clear h4 HP1; have R4 := ST1.out.2.1.row ROW3.out (by decide) (by decide); have c0 := R4.read (i := 0) rfl; have c1 := R4.read (i := 1) rfl; have HP2 := Lib.hid ((ST1.out.alloc (.cells #[.int .i64 ack] 3)).put w4.heap.size [ack] x 1 1 x rfl (row_at w4 _ 3 #[.int .i64 ack] rfl) rfl (by omega) hx16 (by intro v hv; simp at hv; subst hv; exact HA1.out) (by simp [bitsP, putsN, length_unval])); clear R4))
    | (go_at_call 150; (with_reducible refine HP2.out.mono ?_); rintro e w5 ⟨rfl, h5⟩; (have ST2 := Lib.hid h5; clear h5 HP2 c0 c1; have R5 := ST2.out.2.1.row ROW3.out (by decide) (by decide); have c1 := R5.read (i := 1) rfl; clear R5; have HP3 := Lib.hid ((ST2.out.alloc (.cells #[.int .i64 (decide (0 < n)).toNat] 3)).put w5.heap.size [(decide (0 < n)).toNat] 1 1 1 1 rfl (row_at w5 _ 3 #[.int .i64 (decide (0 < n)).toNat] rfl) rfl (by omega) (by omega) (by intro v hv; simp only [List.mem_singleton] at hv; subst hv; exact bool_one _) (by have := HX.out; simp [bitsP, putsN, length_unval]; omega))))
    | (go_at_call 151; (with_reducible refine (sbit_any _ _).mono ?_); rintro e vx ⟨rfl, rfl⟩)
    | (go_at_call 150; (with_reducible refine HP3.out.mono ?_); rintro e w6 ⟨rfl, h6⟩; (have ST3 := Lib.hid h6; clear h6 HP3 c1; have R6 := ST3.out.2.1.row ROW3.out (by decide) (by decide); have c1 := R6.read (i := 1) rfl; clear R6)))
  rw [HMORE.out] at HFULL
  go_loopw [39] (fun i wr => ∃ (k : Nat) (kp : List (Nat × Nat)), k ≤ n ∧ i = .int .i64 k ∧ Hid (statusP ack L x = kp ++ missesP x (L.drop k)) ∧ Hid (StW w2.heap.size w3 w2.heap.size kp wr)) (fun i _ => n - (intOf i).toNat)
  case atStart => exact ⟨0, _, by omega, rfl, Lib.hid HFULL.out, ST3⟩
  case round =>
    obtain ⟨k, kp, hk, rfl, HK, HST⟩ := hrel
    by_cases hlt : k < n
    · obtain ⟨ab, ao, rfl, hc⟩ := HS.out (by rw [HL.out]; omega)
      obtain ⟨m, hr⟩ : ∃ r, L[k]? = some r := ⟨_, List.getElem?_eq_getElem (by rw [HL.out]; exact hlt)⟩
      obtain ⟨e0, e1, e2, e3⟩ := hc k _ hr
      have HWR := Lib.hid (show Below w.heap.size w wr from HB3.out.trans (HST.out.below.mono HB2.out.size))
      have f0 := cell_below HWR.out e0
      have f1 := cell_below HWR.out e1
      have f2 := cell_below HWR.out e2
      have f3 := cell_below HWR.out e3
      have HD := Lib.hid (show L.drop k = m :: L.drop (k + 1) by
        obtain ⟨h1, h2⟩ := List.getElem?_eq_some_iff.1 hr
        rw [List.drop_eq_getElem_cons h1, h2])
      have HMB := Lib.hid (List.all_eq_true.1 HA.out m (List.mem_of_getElem? hr))
      have R7 := HST.out.2.1.row ROW3.out (by decide) (by decide)
      have HDL := Lib.hid (show (L.drop (k + 1)).length = n - (k + 1) by rw [List.length_drop, HL.out])
      have hkI : (k : Int) < (n : Int) := by omega
      have HSTA := Lib.hid (HST.out.alloc (.cells #[.int .i64 m.sn, .bool m.part, .int .i64 m.fr, .int .i64 m.to] 83))
      have b1 : (wr.alloc (.cells #[.int .i64 m.sn, .bool m.part, .int .i64 m.fr, .int .i64 m.to] 83)).cell? ⟨w.heap.size, 1, none⟩ = some (.slice (some ⟨ab, ao, none⟩) n cap) := (R7.more _).read rfl
      have HZ := Lib.hid (HLE.out _ _ HK.out)
      have HWRT := Lib.hid (fun more => swrite_any (p := w2.heap.size) (kp := kp) x m more (wr.alloc (.cells #[.int .i64 m.sn, .bool m.part, .int .i64 m.fr, .int .i64 m.to] 83)) HSTA.out.1 (Nat.le_trans HSTA.out.2.2 HSTA.out.2.1.2.1) HX.out HMB.out (by have := HZ.out; omega))
      clear hc hr e0 e1 e2 e3 R7
      unfold MissM.v at HWRT
      by_cases hmo : k + 1 < n
      · have HMO := Lib.hid (show decide (0 < (L.drop (k + 1)).length) = true by rw [HDL.out]; simp; omega)
        have hmI : (k : Int) < (n : Int) - 1 := by omega
        go_wp2_with (go_at_call 152; (with_reducible refine (HWRT.out _).mono ?_); rintro e w8 ⟨rfl, h8⟩)
        go_roundw
        case rel => exact ⟨k + 1, _, by omega, by go_num, Lib.hid (by rw [HK.out, HD.out, missesP, HMO.out, List.append_assoc]), Lib.hid (HSTA.out.next h8)⟩
        case measure => simp [intOf]; omega
      · have HMO := Lib.hid (show decide (0 < (L.drop (k + 1)).length) = false by rw [HDL.out]; simp; omega)
        have hmI : ¬ (k : Int) < (n : Int) - 1 := by omega
        go_wp2_with (go_at_call 152; (with_reducible refine (HWRT.out _).mono ?_); rintro e w8 ⟨rfl, h8⟩)
        go_roundw
        case rel => exact ⟨k + 1, _, by omega, by go_num, Lib.hid (by rw [HK.out, HD.out, missesP, HMO.out, List.append_assoc]), Lib.hid (HSTA.out.next h8)⟩
        case measure => simp [intOf]; omega
    · have hkn : k = n := by omega
      subst hkn
      have HE := Lib.hid (show statusP ack L x = kp by rw [HK.out, List.drop_of_length_le (by rw [HL.out]; exact Nat.le_refl _)]; simp [missesP])
      have HBY := Lib.hid (byt_stw HST.out (by have := HLE.out _ _ HK.out; omega) rfl)
      go_wp2_with (go_at_call 153; (with_reducible refine HBY.out.mono ?_); rintro e w9 ⟨g, rfl, hg, hrow, hb9⟩)
      go_ret2
      have HWR := show Below w.heap.size w wr from HB3.out.trans (HST.out.below.mono HB2.out.size)
      refine ⟨g, ?_, Nat.le_trans HWR.size hg, ?_, bl_step HWR hb9⟩
      · rw [show stBytes ack L x = pack (bitsP kp) by unfold stBytes; rw [HE.out]]
        rfl
      · rw [show stBytes ack L x = pack (bitsP kp) by unfold stBytes; rw [HE.out]]
        exact hrow
end Go.Proofs.Ytjobgnemklpiaaa
namespace Go.Proofs.Ytjobgnemklpiaaa
open Go.RowKit

theorem sread_any {A : Option Addr} {bs : List Nat} (x n cap : Nat) (w : World) (hn : bs.length = n) (hm : n ≤ 8192) (hc : n ≤ cap) (hs : Src w A (bts bs)) (hb : ∀ b ∈ bs, b < 256) :
    Calls Try.prog 110 #[.slice A n cap, .int .i64 x] w (StRAns w bs x) := by
  by_cases hf : faultS bs x = 0
  · exact sread_walk x n cap w hn hm hc hs hb hf
  · exact sread_fault x n cap w hn hs hb hf
theorem msrc_of {W : World} {g : Nat} {L : List MissM} {cs : Array Value} (h : Row W g 83 cs) (e : cs = (mcells L).toArray) : MSrc W (some ⟨g, 0, none⟩) L := by
  subst e
  intro _
  refine ⟨g, 0, rfl, fun k m hm => ?_⟩
  obtain ⟨a, b, c, d⟩ := mcells_at hm
  rw [Nat.zero_add]
  exact ⟨h.read (by simpa using a), h.read (by simpa using b), h.read (by simpa using c), h.read (by simpa using d)⟩
theorem sal1 (W : World) : Calls Try.prog 109 #[.agg #[.int .i64 5, .slice none 0 0], .int .i64 10] W fun e w' => ∃ g, e = .returned (.tuple #[.slice (some ⟨g, 0, none⟩) 2 2, .int .i64 0]) ∧ W.heap.size ≤ g ∧ Row w' g 5 (bts [0, 20]).toArray ∧ Below W.heap.size W w' := by
  have h := stwrite_ok (A := none) (L := []) 5 10 0 0 W rfl (fun h => absurd h (by decide)) (by decide +kernel)
  unfold StWAns at h
  rw [show stBytes ((5 : Nat) : Int) [] 10 = [0, 20] from by decide +kernel] at h
  exact h
def L2 : List MissM := [⟨3, true, 2, 0⟩, ⟨7, false, 0, 0⟩]
theorem right2 : rightB ((9 : Nat) : Int) L2 ((16 : Nat) : Int) = true := by decide +kernel
theorem sal2 {W : World} {g : Nat} (h : Row W g 83 #[.int .i64 3, .bool true, .int .i64 2, .int .i64 0, .int .i64 7, .bool false, .int .i64 0, .int .i64 0]) :
    Calls Try.prog 109 #[.agg #[.int .i64 9, .slice (some ⟨g, 0, none⟩) 2 2], .int .i64 16] W (StWAns W 9 L2 16) :=
  stwrite_ok (A := some ⟨g, 0, none⟩) (L := L2) 9 16 2 2 W rfl (msrc_of h rfl) right2
theorem sal3 {W : World} {g : Nat} (h : Row W g 5 (bts (stBytes 9 L2 16)).toArray) :
    Calls Try.prog 110 #[.slice (some ⟨g, 0, none⟩) (stBytes 9 L2 16).length (stBytes 9 L2 16).length, .int .i64 16] W fun e w' => ∃ b o c, e = .returned (.tuple #[.agg #[.int .i64 9, .slice (some ⟨b, o, none⟩) 2 c], .int .i64 0]) ∧ w'.cell? ⟨b, o, none⟩ = some (.int .i64 3) ∧ w'.cell? ⟨b, o + 1, none⟩ = some (.bool true) ∧ w'.cell? ⟨b, o + 2, none⟩ = some (.int .i64 2) ∧ w'.cell? ⟨b, o + 3, none⟩ = some (.int .i64 0) ∧ Below W.heap.size W w' := by
  have hl := st_len right2
  have hb : statusF ((9 : Nat) : Int) L2 ((16 : Nat) : Int) = 12 := by decide +kernel
  rw [hb] at hl
  refine (sread_any (bs := stBytes 9 L2 16) 16 _ _ W rfl (by have : ((stBytes 9 L2 16).length : Int) = 12 := hl; omega) (Nat.le_refl _) (row_src h) (pack_small _)).mono ?_
  rintro e w' ⟨h1, h2, _⟩
  have hk : stRd (stBytes 9 L2 16) 16 = (0, 9, L2) := st_back right2
  rw [hk] at h2
  obtain ⟨A, c, rfl, _, _, hs⟩ := h2 rfl
  obtain ⟨b, o, rfl, hc⟩ := hs (by decide)
  obtain ⟨c0, c1, c2, c3⟩ := hc 0 _ rfl
  simp only [Nat.zero_mul, Nat.add_zero] at c0 c1 c2 c3
  exact ⟨b, o, c, rfl, c0, c1, c2, c3, h1⟩
theorem sal4 {W : World} {g : Nat} (h : Row W g 5 #[.int .u8 128]) :
    Calls Try.prog 110 #[.slice (some ⟨g, 0, none⟩) 1 1, .int .i64 10] W fun e w' => e = .returned (.tuple #[.agg #[.int .i64 0, .slice none 0 0], .int .i64 4]) ∧ Below W.heap.size W w' := by
  refine (sread_any (bs := [128]) 10 1 1 W rfl (by omega) (by omega) (row_src (xs := bts [128]) h) (by decide)).mono ?_
  rintro e w' ⟨h1, _, h2⟩
  have hk : stRd [128] 10 = (4, 0, []) := by kernel_rfl
  rw [hk] at h2
  exact ⟨h2 (by decide), h1⟩
theorem sal5 {W : World} {g : Nat} (h : Row W g 83 #[.int .i64 0, .bool false, .int .i64 1, .int .i64 0]) :
    Calls Try.prog 109 #[.agg #[.int .i64 0, .slice (some ⟨g, 0, none⟩) 1 1], .int .i64 10] W fun e w' => e = .returned (.tuple #[.slice none 0 0, .int .i64 3]) ∧ Below W.heap.size W w' :=
  stwrite_bad (A := some ⟨g, 0, none⟩) (L := [⟨0, false, 1, 0⟩]) 0 10 1 1 W rfl (by omega) (msrc_of h rfl) (by decide +kernel)
set_option maxRecDepth 100000 in
set_option maxHeartbeats 3200000 in
theorem stalive_any (w : World) : Calls Try.prog 52 #[] w fun e w' => e = .returned (.bool true) ∧ Below w.heap.size w w' := by
  go_enter Try.func52, Try.ntmps52
  go_wp2_with (first
    | (go_at_call 109; (with_reducible refine (sal1 _).mono ?_); rintro e w1 ⟨g1, rfl, hg1, hr1, hb1⟩; (have HR1 := Lib.hid hr1; have HB1 := Lib.hid hb1; have RW1 := Lib.hid (Row.made w1 83 #[.int .i64 3, .bool true, .int .i64 2, .int .i64 0, .int .i64 7, .bool false, .int .i64 0, .int .i64 0]); clear hr1 hb1 hg1))
    | (go_at_call 109; (with_reducible refine (sal2 RW1.out).mono ?_); rintro e w2 ⟨g2, rfl, hg2, hr2, hb2⟩; (have HR2 := Lib.hid hr2; have HB2 := Lib.hid (bl_step (bl_alloc (Below.refl w1.heap.size w1) _) hb2); clear hr2 hb2 hg2))
    | (go_at_call 110; (with_reducible refine (sal3 HR2.out).mono ?_); rintro e w3 ⟨b, o, c, rfl, c0, c1, c2, c3, hb3⟩; (have HB3 := Lib.hid hb3; clear hb3; have D0 := Lib.hid c0; have D1 := Lib.hid c1; have D2 := Lib.hid c2; have D3 := Lib.hid c3; clear c0 c1 c2 c3; have RS3 := Lib.hid (Row.made w3 81 #[.int .i64 9, .slice (some ⟨b, o, none⟩) 2 c])))
    | (go_at_call 110; (with_reducible refine (sal4 (g := w3.heap.size + 1) ?z1).mono ?_); rotate_left; rintro e w4 ⟨rfl, hb4⟩; (have HB4 := Lib.hid hb4; clear hb4))
    | (go_at_call 109; (with_reducible refine (sal5 ?z2).mono ?_); rotate_left; rintro e w5 ⟨rfl, hb5⟩; (have B34 := Lib.hid (bl_step (bl_alloc (bl_alloc (Below.refl w3.heap.size w3) _) _) HB4.out); have B45 := Lib.hid (bl_step (bl_alloc (bl_alloc (Below.refl w4.heap.size w4) _) _) hb5); have B35 := Lib.hid (bl_step B34.out B45.out); have B15 := Lib.hid (bl_step (bl_step HB2.out HB3.out) B35.out); have RS5 := ((RS3.out.more _).later HB4.out).later B45.out; have k0 := RS5.read (i := 0) rfl; have k1 := RS5.read (i := 1) rfl; have e0 := cell_below B35.out D0.out; have e1 := cell_below B35.out D1.out; have e2 := cell_below B35.out D2.out; have e3 := cell_below B35.out D3.out; have kc : (convert 61 9 (.slice (some ⟨g1, 0, none⟩) 2 2)).run Try.prog w5 = .ok (.string { data := #[0, 20] }) w5 := conv_str (l := [0, 20]) (HR1.out.later B15.out) (by decide); clear hb5 RS5)))
  · go_ret
    exact ⟨rfl, bl_step HB1.out B15.out⟩
  all_goals exact row_at2 _ _ _ _ (size_1 _ _)
end Go.Proofs.Ytjobgnemklpiaaa
namespace Go.Proofs.Ytjobgnemklpiaaa
open Go.RowKit

end Go.Proofs.Ytjobgnemklpiaaa
namespace Go.Proofs.Ytjobgnemklpiaaa
open Go.RowKit

end Go.Proofs.Ytjobgnemklpiaaa
namespace Go.Proofs.Ytjobgnemklpiaaa
open Go.ChangeShapes Go.WideShapes Go.ChangeAt Go.RowKit Go.Deep

theorem Try.cells83 : Try.prog.cellsOf 83 = 4 := by kernel_rfl
theorem Try.cells3s : Try.prog.cellsOf 3 = 1 := by kernel_rfl
theorem Try.cells4s : Try.prog.cellsOf 4 = 1 := by kernel_rfl
set_option maxRecDepth 100000 in
theorem miss_cells {H : Type} {enc : TypeId × Value → H} {W : World} {base fuel : Nat} {sp : Nat → Bool} {held : Bool} {cs : List Value} {x : DataW H × List MemPlace}
    (h : DataW.trod enc Try.prog W base sp held fuel 83 cs = some x) : ∃ m : MissM, cs = [.int .i64 m.sn, .bool m.part, .int .i64 m.fr, .int .i64 m.to] := by
  obtain ⟨xs, n, _, _, hl, hxs, hf⟩ := DataW.trod_struct Try.underlying83 h
  have h0 := hf 0 _ rfl
  have h1 := hf 1 _ rfl
  have h2 := hf 2 _ rfl
  have h3 := hf 3 _ rfl
  rw [Try.cells83] at hl
  match cs, hl with
  | [c0, c1, c2, c3], _ =>
    have hxs' : xs.length = 4 := by simpa using hxs
    match xs, hxs' with
    | [y0, y1, y2, y3], _ =>
      have h0' : DataW.trod enc Try.prog W base sp held n 3 (([c0, c1, c2, c3].drop 0).take (Try.prog.cellsOf 3)) = some y0 := h0
      have h1' : DataW.trod enc Try.prog W base sp held n 4 (([c0, c1, c2, c3].drop 1).take (Try.prog.cellsOf 4)) = some y1 := h1
      have h2' : DataW.trod enc Try.prog W base sp held n 3 (([c0, c1, c2, c3].drop 2).take (Try.prog.cellsOf 3)) = some y2 := h2
      have h3' : DataW.trod enc Try.prog W base sp held n 3 (([c0, c1, c2, c3].drop 3).take (Try.prog.cellsOf 3)) = some y3 := h3
      rw [Try.cells3s] at h0' h2' h3'
      rw [Try.cells4s] at h1'
      obtain ⟨a, ea, _, _⟩ := DataW.trod_int Try.underlying3 h0'
      obtain ⟨b, eb, _⟩ := DataW.trod_bool Try.underlying4 h1'
      obtain ⟨c, ec, _, _⟩ := DataW.trod_int Try.underlying3 h2'
      obtain ⟨d, ed, _, _⟩ := DataW.trod_int Try.underlying3 h3'
      simp at ea eb ec ed
      exact ⟨⟨a, b, c, d⟩, by rw [ea, eb, ec, ed]⟩
theorem spot_none {w : World} {a : Addr} {x : Value} (h : w.cell? a = some x) : a.spot = none := by
  unfold World.cell? at h
  split at h
  · split at h
    · cases h
    · rename_i h1
      simpa using h1
  · cases h
theorem add_plain (b o j : Nat) : (⟨b, o, none⟩ : Addr).add j = ⟨b, o + j, none⟩ := by
  unfold Addr.add
  split
  · rename_i h
    subst h
    rfl
  · rfl
theorem misses_cells {H : Type} {enc : TypeId × Value → H} {W : World} {fuel : Nat} {v : Value} {y : DataW H × List MemPlace} (hf : DataW.trod enc Try.prog W 0 (fun _ => true) true fuel 79 [v] = some y) :
    ∃ (A : Option Addr) (cap : Nat) (L : List MissM), v = .slice A L.length cap ∧ L.length ≤ cap ∧ cap ≤ 9223372036854775807 ∧ MSrc W A L := by
  rcases open_slice Try.underlying79 hf with ⟨hcs, _⟩ | ⟨a, len, cap, m, n, D, Pl, hcs, _, hl, hm, hmm, _, hcell⟩
  · have e : v = .slice none 0 0 := by simpa using hcs
    rw [e]
    exact ⟨none, 0, [], rfl, Nat.le_refl _, by omega, fun h0 => absurd h0 (by simp)⟩
  · have e : v = .slice (some a) len cap := by simpa using hcs
    rw [e]
    have hm' : m = cap := by simpa using hmm
    have each : ∀ i, i < len → ∃ q : MissM, W.cell? (a.add (i * 4)) = some (.int .i64 q.sn) ∧ W.cell? (a.add (i * 4 + 1)) = some (.bool q.part) ∧ W.cell? (a.add (i * 4 + 2)) = some (.int .i64 q.fr) ∧ W.cell? (a.add (i * 4 + 3)) = some (.int .i64 q.to) := by
      intro i hi
      obtain ⟨cs', hc, ht⟩ := hcell i (by omega)
      rw [Try.cells83] at hc
      obtain ⟨q, rfl⟩ := miss_cells ht
      obtain ⟨_, _, hg⟩ := World.cells?_some hc
      have g0 := hg 0 (by omega)
      have g1 := hg 1 (by omega)
      have g2 := hg 2 (by omega)
      have g3 := hg 3 (by omega)
      rw [Go.Deep.add_add] at g0 g1 g2 g3
      exact ⟨q, g0, g1, g2, g3⟩
    let q : Nat → MissM := fun i => if h : i < len then (each i h).choose else ⟨0, false, 0, 0⟩
    have hq : ∀ i, i < len → W.cell? (a.add (i * 4)) = some (.int .i64 (q i).sn) ∧ W.cell? (a.add (i * 4 + 1)) = some (.bool (q i).part) ∧ W.cell? (a.add (i * 4 + 2)) = some (.int .i64 (q i).fr) ∧ W.cell? (a.add (i * 4 + 3)) = some (.int .i64 (q i).to) := by
      intro i hi
      have e : q i = (each i hi).choose := by simp [q, hi]
      rw [e]
      exact (each i hi).choose_spec
    refine ⟨some a, cap, (List.range len).map q, by simp, by simpa using hl, by unfold maxLen at hm; exact hm, fun h0 => ?_⟩
    have h0' : 0 < len := by simpa using h0
    have hs : a.spot = none := by
      have h1 := spot_none (hq 0 h0').1
      simpa [Addr.add] using h1
    obtain ⟨b, o, s⟩ := a
    simp only at hs
    subst hs
    refine ⟨b, o, rfl, fun k m hk => ?_⟩
    have hkl : k < len := by
      have := (List.getElem?_eq_some_iff.1 hk).1
      simpa using this
    rw [List.getElem?_map, List.getElem?_range hkl] at hk
    simp only [Option.map_some, Option.some.injEq] at hk
    subst hk
    obtain ⟨c0, c1, c2, c3⟩ := hq k hkl
    refine ⟨?_, ?_, ?_, ?_⟩
    · rwa [add_plain] at c0
    · rwa [add_plain, ← Nat.add_assoc] at c1
    · rwa [add_plain, ← Nat.add_assoc] at c2
    · rwa [add_plain, ← Nat.add_assoc] at c3
theorem st_agg_field {H : Type} {enc : TypeId × Value → H} {P : Program} {w : World} {base b0 : Nat} {spare : Nat → Bool} {held : Bool} {r : Reach} {t : TypeId} {fs : Array Field} {v : Value} {d : DataW H} {p : List MemPlace}
    (hs : P.underlying t = some (.struct fs)) (hone : oneCellFields P fs = true) (hC : P.cellsOf t = fs.size) (hv : Value.okWide P w r b0 t v) (h : DataW.Trod enc P w base spare held t v d p) :
    ∃ cs : Array Value, v = .agg cs ∧ cs.size = fs.size ∧ ∃ n, ∀ (j : Nat) (f : Field), fs[j]? = some f → ∃ (x : Value) (y : DataW H × List MemPlace), cs[j]? = some x ∧ DataW.trod enc P w base spare held n f.type [x] = some y := by
  obtain ⟨cs, rfl, hsz⟩ := okWide_struct hs hv
  obtain ⟨fuel, hf⟩ := h
  obtain ⟨xs, n, _, _, _, hlen, hg⟩ := DataW.trod_struct hs hf
  refine ⟨cs, rfl, hsz.trans hC, n, fun j f hj => ?_⟩
  obtain ⟨ho, hk⟩ := hone_of hone j f hj
  have hjl : j < fs.size := (Array.getElem?_eq_some_iff.1 hj).1
  have hjc : j < cs.size := by rw [hsz, hC]; exact hjl
  have hjx : j < xs.length := by omega
  refine ⟨cs[j], xs[j], Array.getElem?_eq_getElem hjc, ?_⟩
  have h1 := hg j f hj
  rw [ho, hk, List.getElem?_eq_getElem hjx] at h1
  have e : ((Value.agg cs).cells.toList.drop j).take 1 = [cs[j]] := by
    simp only [Value.cells]
    rw [List.drop_eq_getElem_cons (by simpa using hjc)]
    simp
  rw [← e]
  exact h1
set_option maxRecDepth 100000 in
theorem status_arg {H : Type} {enc : TypeId × Value → H} {W : World} {base : Nat} {v : Value} {d : DataW H} {p : List MemPlace} (hok : Value.okWide Try.prog W .any base 81 v)
    (h : DataW.Trod enc Try.prog W 0 (fun _ => true) true 81 v d p) : ∃ (ack : Int) (A : Option Addr) (cap : Nat) (L : List MissM), v = .agg #[.int .i64 ack, .slice A L.length cap] ∧ L.length ≤ cap ∧ cap ≤ 9223372036854775807 ∧ MSrc W A L := by
  obtain ⟨cs, rfl, hsz, n, hf⟩ := st_agg_field Try.underlying81 (by kernel_rfl) (by kernel_rfl) hok h
  obtain ⟨x0, y0, e0, h0⟩ := hf 0 _ rfl
  obtain ⟨x1, y1, e1, h1⟩ := hf 1 _ rfl
  have hcs : cs = #[x0, x1] := by
    have hsz7 : cs.size = 2 := hsz
    apply Array.ext (by rw [hsz7]; rfl)
    intro i hi _
    have h7 : i < 2 := by omega
    have key : ∀ k x, cs[k]? = some x → ∀ (hk : k < cs.size), cs[k] = x := fun k x hx hk => by
      rw [Array.getElem?_eq_getElem hk] at hx
      injection hx
    rcases i with _ | _ | i
    · exact key 0 _ e0 hi
    · exact key 1 _ e1 hi
    · omega
  subst hcs
  obtain ⟨a0, g0, _⟩ := DataW.trod_int Try.underlying3 h0
  injection g0 with g0
  subst g0
  obtain ⟨A, cap, L, rfl, q1, q2, q3⟩ := misses_cells h1
  exact ⟨a0, A, cap, L, rfl, q1, q2, q3⟩
set_option maxRecDepth 100000 in
theorem miss_arg {H : Type} {enc : TypeId × Value → H} {W : World} {base : Nat} {v : Value} {d : DataW H} {p : List MemPlace} (hok : Value.okWide Try.prog W .any base 83 v)
    (h : DataW.Trod enc Try.prog W 0 (fun _ => true) true 83 v d p) : ∃ m : MissM, v = m.v := by
  obtain ⟨cs, rfl, hsz⟩ := okWide_struct Try.underlying83 hok
  obtain ⟨fuel, hf⟩ := h
  obtain ⟨m, hm⟩ := miss_cells hf
  refine ⟨m, ?_⟩
  unfold MissM.v
  congr 1
  apply Array.toList_inj.1
  simpa [Value.cells] using hm
end Go.Proofs.Ytjobgnemklpiaaa
namespace Go.Proofs.Ytjobgnemklpiaaa
open Go.RowKit

theorem eqMs_refl (L : List MissM) : eqMs L L = true := by
  induction L with
  | nil => rfl
  | cons m t ih => simp [eqMs, ih, (eqM_iff m m).2 rfl]
theorem sread_yes {A : Option Addr} {bs : List Nat} {M : List MissM} {a : Int} (x n cap : Nat) (w : World) (hn : bs.length = n) (hm : n ≤ 8192) (hc : n ≤ cap) (hs : Src w A (bts bs)) (hb : ∀ b ∈ bs, b < 256) (h : stRd bs x = (0, a, M)) :
    Calls Try.prog 110 #[.slice A n cap, .int .i64 x] w fun e w' => ∃ A' c, e = .returned (.tuple #[.agg #[.int .i64 a, .slice A' M.length c], .int .i64 0]) ∧ M.length ≤ c ∧ c ≤ 9223372036854775807 ∧ MSrc w' A' M ∧ Below w.heap.size w w' := by
  refine (sread_any x n cap w hn hm hc hs hb).mono ?_
  rintro e w' ⟨h1, h2, _⟩
  rw [h] at h2
  obtain ⟨A', c, e1, e2, e3, e4⟩ := h2 rfl
  exact ⟨A', c, e1, e2, e3, e4, h1⟩
theorem sread_err {A : Option Addr} {bs : List Nat} {M : List MissM} {a c : Int} (x n cap : Nat) (w : World) (hn : bs.length = n) (hm : n ≤ 8192) (hc : n ≤ cap) (hs : Src w A (bts bs)) (hb : ∀ b ∈ bs, b < 256) (h : stRd bs x = (c, a, M)) (h0 : c ≠ 0) :
    Calls Try.prog 110 #[.slice A n cap, .int .i64 x] w fun e w' => e = .returned (.tuple #[.agg #[.int .i64 0, .slice none 0 0], .int .i64 c]) ∧ Below w.heap.size w w' := by
  refine (sread_any x n cap w hn hm hc hs hb).mono ?_
  rintro e w' ⟨h1, _, h3⟩
  rw [h] at h3
  exact ⟨h3 h0, h1⟩
theorem swrite_zero (x : Nat) (w : World) (hk : okS (x : Int) = true) : Calls Try.prog 109 #[.agg #[.int .i64 0, .slice none 0 0], .int .i64 x] w fun e w' => ∃ g n, e = .returned (.tuple #[.slice (some ⟨g, 0, none⟩) n n, .int .i64 0]) ∧ Below w.heap.size w w' := by
  have hr0 : rightB ((0 : Nat) : Int) [] x = true := by
    rcases okS_nat hk with h | h
    · obtain rfl : x = 10 := by omega
      decide +kernel
    · obtain rfl : x = 16 := by omega
      decide +kernel
  refine (stwrite_ok (A := none) (L := []) 0 x 0 0 w rfl (fun h => absurd h (by decide)) hr0).mono ?_
  rintro e w' ⟨g, rfl, _, _, hb⟩
  exact ⟨g, _, rfl, hb⟩
theorem cells2x {w : World} {g : Nat} {t : TypeId} {a b : Value} (hr : Row w g t #[a, b]) : w.cell? ⟨g, 0, none⟩ = some a ∧ w.cell? ⟨g, 1, none⟩ = some b := ⟨hr.read rfl, hr.read rfl⟩
set_option maxRecDepth 100000 in
set_option maxHeartbeats 1600000 in
theorem sread_kind {A : Option Addr} (x : Int) (n cap : Nat) (w : World) (h : okS x = false) :
    Calls Try.prog 110 #[.slice A n cap, .int .i64 x] w fun e w' => e = .returned (.tuple #[.agg #[.int .i64 0, .slice none 0 0], .int .i64 9]) ∧ Below w.heap.size w w' := by
  have HM := Lib.hid (fun W => smay_any x W)
  rw [h] at HM
  have HF : Calls Try.prog 154 #[.slice A n cap, .int .i64 x] (w.alloc (.cells #[.int .i64 0, .slice none 0 0] 81)) fun e w' => e = .returned (.int .i64 9) ∧ w.alloc (.cells #[.int .i64 0, .slice none 0 0] 81) = w' := by
    generalize w.alloc (.cells #[.int .i64 0, .slice none 0 0] 81) = W
    clear h
    go_enter Try.func154, Try.ntmps154
    go_wp2_with (go_at_call 146; refine (HM.out _).mono ?_; rintro e w1 ⟨rfl, rfl⟩)
    go_ret
    exact ⟨rfl, rfl⟩
  have HFH := Lib.hid HF
  have ROW := Lib.hid (Row.made w 81 #[.int .i64 0, .slice none 0 0])
  obtain ⟨⟨c0, c1⟩, f0, f1⟩ := cells2 ROW.out
  clear h HF
  go_enter Try.func110, Try.ntmps110
  go_wp2
  refine st_scope_through 0 (fun _ _ => False) (fun _ _ => 0) rfl (fun _ => ?_) (fun _ _ h => h.elim)
  go_wp2_with (go_at_call 154; (with_reducible refine HFH.out.mono ?_); rintro e w1 ⟨rfl, rfl⟩)
  simp only [Exit.jump]
  obtain ⟨dd, hdd⟩ := understat_parts
  refine bodyPost_ret (st_results_two rfl _ _ w.heap.size 81 #[.int .i64 0, .slice none 0 0] dd rfl ROW.out hdd Try.infostat) rfl ?_
  exact ⟨rfl, bl_alloc (Below.refl _ _) _⟩
end Go.Proofs.Ytjobgnemklpiaaa
namespace Go.Proofs.Ytjobgnemklpiaaa
open Go.RowKit

def bytesC (ls : List Nat) (x : Int) : Int := if ls.length = 0 then 0 else if 0 < sizeF 1 x then (ls.sum : Int) + sizeF ((ls.length : Int) - 1) x else 0
set_option maxRecDepth 100000 in
set_option maxHeartbeats 1600000 in
theorem cutbytes_any {A D : Option Addr} {L : List RowB} (fi x : Int) (n cap dn dc : Nat) (w : World) (hL : L.length = n) (hn : n ≤ 1000) (hs : RSrc w A L) (hsum : (lens L).sum ≤ 1000000) :
    Calls Try.prog 58 #[.agg #[.int .i64 fi, .slice A n cap, .slice D dn dc], .int .i64 x] w fun e w' => e = .returned (.int .i64 (bytesC (lens L) x)) ∧ Below w.heap.size w w' := by
  have HMB := Lib.hid (fun W => cutmay_any x W)
  have HSU := Lib.hid (fun W (hb : Below w.heap.size w W) => cutsum_any n cap W hL hn (hs.later hb) hsum)
  have HSZ := Lib.hid (fun W => size_any ((n : Int) - 1) x W)
  have hz : 0 ≤ sizeF ((n : Int) - 1) x ∧ sizeF ((n : Int) - 1) x ≤ 46 := sizeF_nonneg _ x
  have HF := Lib.hid (show bytesC (lens L) x = if n = 0 then 0 else if 0 < sizeF 1 x then ((lens L).sum : Int) + sizeF ((n : Int) - 1) x else 0 by unfold bytesC; rw [length_lens, hL])
  have ROW := Lib.hid (Row.made w 91 #[.int .i64 fi, .slice A n cap, .slice D dn dc])
  have HB0 := Lib.hid (bl_alloc (Below.refl w.heap.size w) (.cells #[.int .i64 fi, .slice A n cap, .slice D dn dc] 91))
  have d1 : (w.alloc (.cells #[.int .i64 fi, .slice A n cap, .slice D dn dc] 91)).cell? ⟨w.heap.size, 1, none⟩ = some (.slice A n cap) := ROW.out.read rfl
  generalize sizeF ((n : Int) - 1) x = z at *
  generalize (lens L).sum = sm at *
  clear hs hL
  by_cases h0 : n = 0
  · rw [if_pos h0] at HF
    subst h0
    go_enter Try.func58, Try.ntmps58
    go_wp2
    go_ret
    exact ⟨by rw [HF.out]; rfl, HB0.out⟩
  · rw [if_neg h0] at HF
    have g0 : ((n : Int) == 0) = false := by simp; exact h0
    by_cases hp : 0 < sizeF 1 x
    · rw [if_pos hp] at HF
      have HM := Lib.hid (fun W => (by have h := HMB.out W; rw [decide_eq_true hp] at h; exact h : Calls Try.prog 117 #[.int .i64 x] W fun e w' => e = .returned (.bool true) ∧ W = w'))
      have hwr : IntKind.i64.wrap ((n : Int) - 1) = (n : Int) - 1 := by rw [IntKind.wrap_i64]; omega
      have hws : IntKind.i64.wrap ((sm : Int) + z) = (sm : Int) + z := by rw [IntKind.wrap_i64]; omega
      clear HMB hp h0
      go_enter Try.func58, Try.ntmps58
      go_wp2_with (go_at_call 117; (with_reducible refine (HM.out _).mono ?_); rintro e w1 ⟨rfl, rfl⟩)
      have k0 : (w.alloc (.cells #[.int .i64 fi, .slice A n cap, .slice D dn dc] 91)).drew.cell? ⟨w.heap.size, 1, none⟩ = some (.slice A n cap) := ROW.out.drawn.read rfl
      go_region_held3 (fun w' => w'.cell? ⟨w.heap.size, 1, none⟩ = some (.slice A n cap)) (first | assumption | exact k0 | go_keep) (first
        | (go_at_call 118; (with_reducible refine (HSU.out _ (bl_step HB0.out (bl_drew (Below.refl _ _)))).mono ?_); rintro e w2 ⟨rfl, rfl⟩)
        | (go_at_call 119; (with_reducible refine (HSZ.out _).mono ?_); rintro e w3 ⟨rfl, rfl⟩))
      go_wp2
      go_ret
      exact ⟨by rw [HF.out]; rfl, bl_step HB0.out (bl_drew (Below.refl _ _))⟩
    · rw [if_neg hp] at HF
      have HM := Lib.hid (fun W => (by have h := HMB.out W; rw [decide_eq_false hp] at h; exact h : Calls Try.prog 117 #[.int .i64 x] W fun e w' => e = .returned (.bool false) ∧ W = w'))
      clear HMB hp h0
      go_enter Try.func58, Try.ntmps58
      go_wp2_with (go_at_call 117; (with_reducible refine (HM.out _).mono ?_); rintro e w1 ⟨rfl, rfl⟩)
      go_ret
      exact ⟨by rw [HF.out]; rfl, HB0.out⟩
end Go.Proofs.Ytjobgnemklpiaaa
