/-
  status: a status is written: its bytes, or why it has none. What status answers to fixed calls. status: a status as the document's. status: a status as the document's, walked. Fields' lengths: which may be, how many bytes they are: plain lists.
-/
import Derived.Test.YtbdjgdkafbkdbaaJPduKinds09
import Derived.Test.YtbdjgdkafbkdbaaJPduKinds10
import Derived.Test.YtbdjgdkafbkdbaaJPduKinds03
import Derived.Test.YtbdjgdkafbkdbaaJPduKinds08
import Derived.Test.YtbdjgdkafbkdbaaJPduKinds02
namespace Go.Proofs.Ytbdjgdkafbkdbaa
open Go.RowKit

def StWAns (w : World) (ack : Int) (L : List MissM) (x : Nat) (e : Ending) (w' : World) : Prop :=
  ∃ g, e = .returned (.tuple #[.slice (some ⟨g, 0, none⟩) (stBytes ack L x).length (stBytes ack L x).length, .int .i64 0]) ∧ w.heap.size ≤ g ∧ Row w' g 5 (bts (stBytes ack L x)).toArray ∧ Below w.heap.size w w'
set_option maxRecDepth 100000 in
set_option maxHeartbeats 1600000 in
theorem stwrite_bad {A : Option Addr} {L : List MissM} (ack x : Int) (n cap : Nat) (w : World) (hL : L.length = n) (hn : n ≤ 9223372036854775807) (hs : MSrc w A L) (hb : rightB ack L x = false) :
    Calls Try.prog 52 #[.agg #[.int .i64 ack, .slice A n cap], .int .i64 x] w fun e w' => e = .returned (.tuple #[.slice none 0 0, .int .i64 (if okS x then 3 else 9)]) ∧ Below w.heap.size w w' := by
  have HR := Lib.hid (fun W hb => sright_any ack x n cap W hL hn (hs.later (v := W) hb))
  rw [hb] at HR
  have HM := Lib.hid (fun W => smay_any x W)
  have R1 := Row.made w 81 #[.int .i64 ack, .slice A n cap]
  have c0 := R1.read (i := 0) rfl
  have c1 := R1.read (i := 1) rfl
  clear hs hL hb R1
  cases hx : okS x
  all_goals
    rw [hx] at HM
    clear hx
    go_enter Try.func52, Try.ntmps52
    go_wp2_with (first
      | (go_at_call 96; refine (HM.out _).mono ?_; rintro e w1 ⟨rfl, rfl⟩)
      | (go_at_call 53; refine (HR.out _ (bl_alloc (Below.refl _ _) _)).mono ?_; rintro e w2 ⟨rfl, hb2⟩))
    go_ret2
  · exact ⟨rfl, bl_alloc (Below.refl _ _) _⟩
  · exact ⟨rfl, bl_step (bl_alloc (Below.refl _ _) _) hb2⟩
theorem StW.below {B p : Nat} {w0 w : World} {kp : List (Nat × Nat)} (h : StW B w0 p kp w) : Below B w0 w := h.2.1.1
theorem StW.len_le {ack : Int} {L : List MissM} {x : Nat} (h : rightB ack L x = true) {kp r : List (Nat × Nat)} (e : statusP ack L x = kp ++ r) : (bitsP kp).length ≤ 2000 := by
  have h1 := len_statusP ack L x
  obtain ⟨hx, hok, _, hl, _⟩ := rightB_parts h
  have h2 := (bitsS_bd hok L).2
  rw [e, bitsP_append, List.length_append] at h1
  omega
theorem byt_stw {B p n : Nat} {w0 w : World} {kp : List (Nat × Nat)} (h : StW B w0 p kp w) (ht : (bitsP kp).length ≤ 60000) (hn : (pack (bitsP kp)).length = n) :
    Calls Try.prog 101 #[.pointer (some ⟨p, 0, none⟩)] w fun e w' => ∃ g, e = .returned (.slice (some ⟨g, 0, none⟩) n n) ∧ w.heap.size ≤ g ∧ Row w' g 5 (bts (pack (bitsP kp))).toArray ∧ Below w.heap.size w w' := by
  obtain ⟨⟨sv, hr⟩, _⟩ := h
  have h1 := bytes_any hr (by omega)
  rw [← length_pack, hn] at h1
  exact h1
set_option maxRecDepth 100000 in
set_option maxHeartbeats 3200000 in
theorem stwrite_ok {A : Option Addr} {L : List MissM} (ack x n cap : Nat) (w : World) (hL : L.length = n) (hs : MSrc w A L) (hb : rightB ack L x = true) :
    Calls Try.prog 52 #[.agg #[.int .i64 ack, .slice A n cap], .int .i64 x] w (StWAns w ack L x) := by
  obtain ⟨hx, hok, ha, hl, hall⟩ := rightB_parts hb
  obtain ⟨_, ha1⟩ := (okn_nat hx).1 ha
  rw [Int.toNat_natCast] at ha1
  have HR := Lib.hid (fun W hb => sright_any ack x n cap W hL (by omega) (hs.later (v := W) hb))
  rw [hb] at HR
  have HM := Lib.hid (fun W => smay_any x W)
  rw [hok] at HM
  have ROW0 := Lib.hid (Row.made w 81 #[.int .i64 ack, .slice A n cap])
  have HS := Lib.hid hs
  have HL := Lib.hid hL
  have HX := Lib.hid hx
  have HA := Lib.hid hall
  have HA1 := Lib.hid ha1
  have HRB := Lib.hid hb
  have HLE := Lib.hid (fun kp r e => StW.len_le (kp := kp) (r := r) hb e)
  have hx16 : x ≤ 16 := by omega
  have hn32 : n ≤ 32 := by omega
  have HFULL := Lib.hid (show statusP ack L x = ((([] ++ putsN [0] 4) ++ putsN [ack] x) ++ putsN [(decide (0 < L.length)).toNat] 1) ++ missesP x L by simp [statusP, headP, putsN])
  have R1 := ROW0.out
  have HMORE := Lib.hid (show decide (0 < L.length) = decide (0 < n) by rw [hL])
  clear hs hL hx hall hb hok ha hl ha1 R1
  go_enter Try.func52, Try.ntmps52
  go_wp2_with (first
    | (go_at_call 96; refine (HM.out _).mono ?_; rintro e w1 ⟨rfl, rfl⟩)
    | (go_at_call 53; refine (HR.out _ (bl_alloc (Below.refl _ _) _)).mono ?_; rintro e w2 ⟨rfl, hb2⟩; (have HB2 := Lib.hid (bl_step (bl_alloc (Below.refl w.heap.size w) _) hb2); have ROW2 := Lib.hid (ROW0.out.later hb2); clear hb2))
    | (go_at_call 97; refine (new_any w2.heap.size w2 (Nat.le_refl _)).mono ?_; rintro e w3 ⟨rfl, hr3, hb3⟩; (have ROW3 := Lib.hid (ROW2.out.later hb3); have HB3 := Lib.hid (bl_step HB2.out hb3); have ST0 := Lib.hid (StW.start (B := w2.heap.size) (kp := []) ⟨_, hr3⟩ hb3.size); have HP1 := Lib.hid ((ST0.out.alloc (.cells #[.int .i64 0] 3)).put w3.heap.size [0] 4 1 1 4 rfl (row_at w3 _ 3 #[.int .i64 0] rfl) rfl (by omega) (by omega) (by intro v hv; simp at hv; subst hv; decide) (by simp [bitsP])); clear hr3 hb3))
    | (go_at_call 98; (with_reducible refine HP1.out.mono ?_); rintro e w4 ⟨rfl, h4⟩; (have ST1 := Lib.hid h4; clear h4 HP1; have R4 := ST1.out.2.1.row ROW3.out (by decide) (by decide); have c0 := R4.read (i := 0) rfl; have c1 := R4.read (i := 1) rfl; have HP2 := Lib.hid ((ST1.out.alloc (.cells #[.int .i64 ack] 3)).put w4.heap.size [ack] x 1 1 x rfl (row_at w4 _ 3 #[.int .i64 ack] rfl) rfl (by omega) hx16 (by intro v hv; simp at hv; subst hv; exact HA1.out) (by simp [bitsP, putsN, length_unval])); clear R4))
    | (go_at_call 98; (with_reducible refine HP2.out.mono ?_); rintro e w5 ⟨rfl, h5⟩; (have ST2 := Lib.hid h5; clear h5 HP2 c0 c1; have R5 := ST2.out.2.1.row ROW3.out (by decide) (by decide); have c1 := R5.read (i := 1) rfl; clear R5; have HP3 := Lib.hid ((ST2.out.alloc (.cells #[.int .i64 (decide (0 < n)).toNat] 3)).put w5.heap.size [(decide (0 < n)).toNat] 1 1 1 1 rfl (row_at w5 _ 3 #[.int .i64 (decide (0 < n)).toNat] rfl) rfl (by omega) (by omega) (by intro v hv; simp only [List.mem_singleton] at hv; subst hv; exact bool_one _) (by have := HX.out; simp [bitsP, putsN, length_unval]; omega))))
    | (go_at_call 99; (with_reducible refine (sbit_any _ _).mono ?_); rintro e vx ⟨rfl, rfl⟩)
    | (go_at_call 98; (with_reducible refine HP3.out.mono ?_); rintro e w6 ⟨rfl, h6⟩; (have ST3 := Lib.hid h6; clear h6 HP3 c1; have R6 := ST3.out.2.1.row ROW3.out (by decide) (by decide); have c1 := R6.read (i := 1) rfl; clear R6)))
  rw [HMORE.out] at HFULL
  go_loopw [39] (fun i wr => ∃ (k : Nat) (kp : List (Nat × Nat)), k ≤ n ∧ i = .int .i64 k ∧ Hid (statusP ack L x = kp ++ missesP x (L.drop k)) ∧ Hid (StW w2.heap.size w3 w2.heap.size kp wr)) (fun i _ => n - (intOf i).toNat)
  case atStart => exact ⟨0, _, by omega, rfl, Lib.hid HFULL.out, ST3⟩
  case round =>
    obtain ⟨k, kp, hk, rfl, HK, HST⟩ := hrel
    by_cases hlt : k < n
    · obtain ⟨ab, ao, rfl, hc⟩ := HS.out (by rw [HL.out]; omega)
      obtain ⟨m, hr⟩ : ∃ r, L[k]? = some r := ⟨_, List.getElem?_eq_getElem (by rw [HL.out]; exact hlt)⟩
      obtain ⟨e0, e1, e2, e3⟩ := hc k _ hr
      have HWR := Lib.hid (show Below w.heap.size w wr from HB3.out.trans (HST.out.below.mono HB2.out.size))
      have f0 := cell_below HWR.out e0
      have f1 := cell_below HWR.out e1
      have f2 := cell_below HWR.out e2
      have f3 := cell_below HWR.out e3
      have HD := Lib.hid (show L.drop k = m :: L.drop (k + 1) by
        obtain ⟨h1, h2⟩ := List.getElem?_eq_some_iff.1 hr
        rw [List.drop_eq_getElem_cons h1, h2])
      have HMB := Lib.hid (List.all_eq_true.1 HA.out m (List.mem_of_getElem? hr))
      have R7 := HST.out.2.1.row ROW3.out (by decide) (by decide)
      have HDL := Lib.hid (show (L.drop (k + 1)).length = n - (k + 1) by rw [List.length_drop, HL.out])
      have hkI : (k : Int) < (n : Int) := by omega
      have HSTA := Lib.hid (HST.out.alloc (.cells #[.int .i64 m.sn, .bool m.part, .int .i64 m.fr, .int .i64 m.to] 100))
      have b1 : (wr.alloc (.cells #[.int .i64 m.sn, .bool m.part, .int .i64 m.fr, .int .i64 m.to] 100)).cell? ⟨w.heap.size, 1, none⟩ = some (.slice (some ⟨ab, ao, none⟩) n cap) := (R7.more _).read rfl
      have HZ := Lib.hid (HLE.out _ _ HK.out)
      have HWRT := Lib.hid (fun more => swrite_any (p := w2.heap.size) (kp := kp) x m more (wr.alloc (.cells #[.int .i64 m.sn, .bool m.part, .int .i64 m.fr, .int .i64 m.to] 100)) HSTA.out.1 (Nat.le_trans HSTA.out.2.2 HSTA.out.2.1.2.1) HX.out HMB.out (by have := HZ.out; omega))
      clear hc hr e0 e1 e2 e3 R7
      unfold MissM.v at HWRT
      by_cases hmo : k + 1 < n
      · have HMO := Lib.hid (show decide (0 < (L.drop (k + 1)).length) = true by rw [HDL.out]; simp; omega)
        have hmI : (k : Int) < (n : Int) - 1 := by omega
        go_wp2_with (go_at_call 100; (with_reducible refine (HWRT.out _).mono ?_); rintro e w8 ⟨rfl, h8⟩)
        go_roundw
        case rel => exact ⟨k + 1, _, by omega, by go_num, Lib.hid (by rw [HK.out, HD.out, missesP, HMO.out, List.append_assoc]), Lib.hid (HSTA.out.next h8)⟩
        case measure => simp [intOf]; omega
      · have HMO := Lib.hid (show decide (0 < (L.drop (k + 1)).length) = false by rw [HDL.out]; simp; omega)
        have hmI : ¬ (k : Int) < (n : Int) - 1 := by omega
        go_wp2_with (go_at_call 100; (with_reducible refine (HWRT.out _).mono ?_); rintro e w8 ⟨rfl, h8⟩)
        go_roundw
        case rel => exact ⟨k + 1, _, by omega, by go_num, Lib.hid (by rw [HK.out, HD.out, missesP, HMO.out, List.append_assoc]), Lib.hid (HSTA.out.next h8)⟩
        case measure => simp [intOf]; omega
    · have hkn : k = n := by omega
      subst hkn
      have HE := Lib.hid (show statusP ack L x = kp by rw [HK.out, List.drop_of_length_le (by rw [HL.out]; exact Nat.le_refl _)]; simp [missesP])
      have HBY := Lib.hid (byt_stw HST.out (by have := HLE.out _ _ HK.out; omega) rfl)
      go_wp2_with (go_at_call 101; (with_reducible refine HBY.out.mono ?_); rintro e w9 ⟨g, rfl, hg, hrow, hb9⟩)
      go_ret2
      have HWR := show Below w.heap.size w wr from HB3.out.trans (HST.out.below.mono HB2.out.size)
      refine ⟨g, ?_, Nat.le_trans HWR.size hg, ?_, bl_step HWR hb9⟩
      · rw [show stBytes ack L x = pack (bitsP kp) by unfold stBytes; rw [HE.out]]
        rfl
      · rw [show stBytes ack L x = pack (bitsP kp) by unfold stBytes; rw [HE.out]]
        exact hrow
end Go.Proofs.Ytbdjgdkafbkdbaa
namespace Go.Proofs.Ytbdjgdkafbkdbaa
open Go.RowKit

theorem sread_any {A : Option Addr} {bs : List Nat} (x n cap : Nat) (w : World) (hn : bs.length = n) (hm : n ≤ 8192) (hc : n ≤ cap) (hs : Src w A (bts bs)) (hb : ∀ b ∈ bs, b < 256) :
    Calls Try.prog 60 #[.slice A n cap, .int .i64 x] w (StRAns w bs x) := by
  by_cases hf : faultS bs x = 0
  · exact sread_walk x n cap w hn hm hc hs hb hf
  · exact sread_fault x n cap w hn hs hb hf
theorem msrc_of {W : World} {g : Nat} {L : List MissM} {cs : Array Value} (h : Row W g 100 cs) (e : cs = (mcells L).toArray) : MSrc W (some ⟨g, 0, none⟩) L := by
  subst e
  intro _
  refine ⟨g, 0, rfl, fun k m hm => ?_⟩
  obtain ⟨a, b, c, d⟩ := mcells_at hm
  rw [Nat.zero_add]
  exact ⟨h.read (by simpa using a), h.read (by simpa using b), h.read (by simpa using c), h.read (by simpa using d)⟩
theorem sal1 (W : World) : Calls Try.prog 52 #[.agg #[.int .i64 5, .slice none 0 0], .int .i64 10] W fun e w' => ∃ g, e = .returned (.tuple #[.slice (some ⟨g, 0, none⟩) 2 2, .int .i64 0]) ∧ W.heap.size ≤ g ∧ Row w' g 5 (bts [0, 20]).toArray ∧ Below W.heap.size W w' := by
  have h := stwrite_ok (A := none) (L := []) 5 10 0 0 W rfl (fun h => absurd h (by decide)) (by decide +kernel)
  unfold StWAns at h
  rw [show stBytes ((5 : Nat) : Int) [] 10 = [0, 20] from by decide +kernel] at h
  exact h
def L2 : List MissM := [⟨3, true, 2, 0⟩, ⟨7, false, 0, 0⟩]
theorem right2 : rightB ((9 : Nat) : Int) L2 ((16 : Nat) : Int) = true := by decide +kernel
theorem sal2 {W : World} {g : Nat} (h : Row W g 100 #[.int .i64 3, .bool true, .int .i64 2, .int .i64 0, .int .i64 7, .bool false, .int .i64 0, .int .i64 0]) :
    Calls Try.prog 52 #[.agg #[.int .i64 9, .slice (some ⟨g, 0, none⟩) 2 2], .int .i64 16] W (StWAns W 9 L2 16) :=
  stwrite_ok (A := some ⟨g, 0, none⟩) (L := L2) 9 16 2 2 W rfl (msrc_of h rfl) right2
theorem sal3 {W : World} {g : Nat} (h : Row W g 5 (bts (stBytes 9 L2 16)).toArray) :
    Calls Try.prog 60 #[.slice (some ⟨g, 0, none⟩) (stBytes 9 L2 16).length (stBytes 9 L2 16).length, .int .i64 16] W fun e w' => ∃ b o c, e = .returned (.tuple #[.agg #[.int .i64 9, .slice (some ⟨b, o, none⟩) 2 c], .int .i64 0]) ∧ w'.cell? ⟨b, o, none⟩ = some (.int .i64 3) ∧ w'.cell? ⟨b, o + 1, none⟩ = some (.bool true) ∧ w'.cell? ⟨b, o + 2, none⟩ = some (.int .i64 2) ∧ w'.cell? ⟨b, o + 3, none⟩ = some (.int .i64 0) ∧ Below W.heap.size W w' := by
  have hl := st_len right2
  have hb : statusF ((9 : Nat) : Int) L2 ((16 : Nat) : Int) = 12 := by decide +kernel
  rw [hb] at hl
  refine (sread_any (bs := stBytes 9 L2 16) 16 _ _ W rfl (by have : ((stBytes 9 L2 16).length : Int) = 12 := hl; omega) (Nat.le_refl _) (row_src h) (pack_small _)).mono ?_
  rintro e w' ⟨h1, h2, _⟩
  have hk : stRd (stBytes 9 L2 16) 16 = (0, 9, L2) := st_back right2
  rw [hk] at h2
  obtain ⟨A, c, rfl, _, _, hs⟩ := h2 rfl
  obtain ⟨b, o, rfl, hc⟩ := hs (by decide)
  obtain ⟨c0, c1, c2, c3⟩ := hc 0 _ rfl
  simp only [Nat.zero_mul, Nat.add_zero] at c0 c1 c2 c3
  exact ⟨b, o, c, rfl, c0, c1, c2, c3, h1⟩
theorem sal4 {W : World} {g : Nat} (h : Row W g 5 #[.int .u8 128]) :
    Calls Try.prog 60 #[.slice (some ⟨g, 0, none⟩) 1 1, .int .i64 10] W fun e w' => e = .returned (.tuple #[.agg #[.int .i64 0, .slice none 0 0], .int .i64 4]) ∧ Below W.heap.size W w' := by
  refine (sread_any (bs := [128]) 10 1 1 W rfl (by omega) (by omega) (row_src (xs := bts [128]) h) (by decide)).mono ?_
  rintro e w' ⟨h1, _, h2⟩
  have hk : stRd [128] 10 = (4, 0, []) := by kernel_rfl
  rw [hk] at h2
  exact ⟨h2 (by decide), h1⟩
theorem sal5 {W : World} {g : Nat} (h : Row W g 100 #[.int .i64 0, .bool false, .int .i64 1, .int .i64 0]) :
    Calls Try.prog 52 #[.agg #[.int .i64 0, .slice (some ⟨g, 0, none⟩) 1 1], .int .i64 10] W fun e w' => e = .returned (.tuple #[.slice none 0 0, .int .i64 3]) ∧ Below W.heap.size W w' :=
  stwrite_bad (A := some ⟨g, 0, none⟩) (L := [⟨0, false, 1, 0⟩]) 0 10 1 1 W rfl (by omega) (msrc_of h rfl) (by decide +kernel)
set_option maxRecDepth 100000 in
set_option maxHeartbeats 3200000 in
theorem stalive_any (w : World) : Calls Try.prog 50 #[] w fun e w' => e = .returned (.bool true) ∧ Below w.heap.size w w' := by
  go_enter Try.func50, Try.ntmps50
  go_wp2_with (first
    | (go_at_call 52; (with_reducible refine (sal1 _).mono ?_); rintro e w1 ⟨g1, rfl, hg1, hr1, hb1⟩; (have HR1 := Lib.hid hr1; have HB1 := Lib.hid hb1; have RW1 := Lib.hid (Row.made w1 100 #[.int .i64 3, .bool true, .int .i64 2, .int .i64 0, .int .i64 7, .bool false, .int .i64 0, .int .i64 0]); clear hr1 hb1 hg1))
    | (go_at_call 52; (with_reducible refine (sal2 RW1.out).mono ?_); rintro e w2 ⟨g2, rfl, hg2, hr2, hb2⟩; (have HR2 := Lib.hid hr2; have HB2 := Lib.hid (bl_step (bl_alloc (Below.refl w1.heap.size w1) _) hb2); clear hr2 hb2 hg2))
    | (go_at_call 60; (with_reducible refine (sal3 HR2.out).mono ?_); rintro e w3 ⟨b, o, c, rfl, c0, c1, c2, c3, hb3⟩; (have HB3 := Lib.hid hb3; clear hb3; have D0 := Lib.hid c0; have D1 := Lib.hid c1; have D2 := Lib.hid c2; have D3 := Lib.hid c3; clear c0 c1 c2 c3; have RS3 := Lib.hid (Row.made w3 81 #[.int .i64 9, .slice (some ⟨b, o, none⟩) 2 c])))
    | (go_at_call 60; (with_reducible refine (sal4 (g := w3.heap.size + 1) ?z1).mono ?_); rotate_left; rintro e w4 ⟨rfl, hb4⟩; (have HB4 := Lib.hid hb4; clear hb4))
    | (go_at_call 52; (with_reducible refine (sal5 ?z2).mono ?_); rotate_left; rintro e w5 ⟨rfl, hb5⟩; (have B34 := Lib.hid (bl_step (bl_alloc (bl_alloc (Below.refl w3.heap.size w3) _) _) HB4.out); have B45 := Lib.hid (bl_step (bl_alloc (bl_alloc (Below.refl w4.heap.size w4) _) _) hb5); have B35 := Lib.hid (bl_step B34.out B45.out); have B15 := Lib.hid (bl_step (bl_step HB2.out HB3.out) B35.out); have RS5 := ((RS3.out.more _).later HB4.out).later B45.out; have k0 := RS5.read (i := 0) rfl; have k1 := RS5.read (i := 1) rfl; have e0 := cell_below B35.out D0.out; have e1 := cell_below B35.out D1.out; have e2 := cell_below B35.out D2.out; have e3 := cell_below B35.out D3.out; have kc : (convert 61 9 (.slice (some ⟨g1, 0, none⟩) 2 2)).run Try.prog w5 = .ok (.string { data := #[0, 20] }) w5 := conv_str (l := [0, 20]) (HR1.out.later B15.out) (by decide); clear hb5 RS5)))
  · go_ret
    exact ⟨rfl, bl_step HB1.out B15.out⟩
  all_goals exact row_at2 _ _ _ _ (size_1 _ _)
end Go.Proofs.Ytbdjgdkafbkdbaa
namespace Go.Proofs.Ytbdjgdkafbkdbaa
open Go.RowKit

theorem Try.inforst : (Try.prog.info? 84).map (·.size) = some 2 := by kernel_rfl
theorem Try.underrst : (Try.prog.underlying 84).map (fun d => match d with | .struct _ => true | _ => false) = some true := by kernel_rfl
theorem underrst_parts : ∃ fs, Try.prog.underlying 84 = some (.struct fs) := by
  obtain ⟨d, hd, h⟩ := Option.map_eq_some_iff.1 Try.underrst
  cases d with
  | struct fs => exact ⟨fs, hd⟩
  | _ => simp at h
theorem Try.inform : (Try.prog.info? 159).map (fun i => (i.zero, i.size, i.bytes)) = some (some (.agg #[.int .i64 0, .bool false, .int .i64 0, .int .i64 0]), 4, 32) := by kernel_rfl
/-- a list of the document's misses of a call's own -/
def OwnD (B : Nat) (w : World) (v : Value) (L : List MissM) : Prop := w.ownsRow B 159 4 v L.length (mcells L)
theorem OwnD.form {B : Nat} {w : World} {v : Value} {L : List MissM} (h : OwnD B w v L) : ∃ A c, v = .slice A L.length c ∧ L.length ≤ c ∧ c ≤ 9223372036854775807 := by
  rcases h.2 with ⟨rfl, h0⟩ | ⟨g, cap, cur, rfl, _, _, h1, h2, _⟩
  · exact ⟨none, 0, by rw [h0], by omega, by omega⟩
  · exact ⟨_, cap, rfl, h1, by unfold maxLen at h2; omega⟩
theorem OwnD.src {B : Nat} {w : World} {A : Option Addr} {n c : Nat} {L : List MissM} (h : OwnD B w (.slice A n c) L) : MSrc w A L := by
  intro h0
  obtain ⟨g, cap', hv, _, _⟩ := World.ownsRow.form h h0
  injection hv with hA _ _
  subst hA
  have hc := World.ownsRow.cells h (g := g) rfl
  refine ⟨g, 0, rfl, fun k m hm => ?_⟩
  obtain ⟨a, b, c, d⟩ := mcells_at hm
  have q := fun j u hu => hc j u hu
  refine ⟨?_, ?_, ?_, ?_⟩
  · have := q _ _ a; rw [add_zero_addr] at this; rw [Nat.zero_add]; exact this
  · have := q _ _ b; rw [add_zero_addr] at this; rw [Nat.zero_add]; exact this
  · have := q _ _ c; rw [add_zero_addr] at this; rw [Nat.zero_add]; exact this
  · have := q _ _ d; rw [add_zero_addr] at this; rw [Nat.zero_add]; exact this
theorem OwnD.next {B : Nat} {w : World} {v : Value} {L : List MissM} (h : OwnD B w v L) (hB : B ≤ w.heap.size) (m : MissM) (hl : L.length ≤ 1000) :
    ∃ g c w3, (Builtin.append_ #[82, 82] 82 #[v, .slice (some ⟨w.heap.size, 0, none⟩) 1 1]).run Try.prog (w.alloc (.cells #[.int .i64 m.sn, .bool m.part, .int .i64 m.fr, .int .i64 m.to] 159)) = .ok (.slice (some ⟨g, 0, none⟩) (L.length + 1) c) w3 ∧
      OwnD B w3 (.slice (some ⟨g, 0, none⟩) (L.length + 1) c) (L ++ [m]) ∧ Only (fun k => v.ownBlock = some k) w w3 := by
  obtain ⟨i0, hi, hi0, hi1, hi2⟩ := info_parts Try.inform
  obtain ⟨g, cap, w3, hr3, h2, h3, _, _⟩ := run_append_lies (P := Try.prog) (w.alloc (.cells #[.int .i64 m.sn, .bool m.part, .int .i64 m.fr, .int .i64 m.to] 159)) 82 82 B 159 i0 _ 4 32 Try.underlying82 hi hi0 hi1 hi2 rfl (by omega) v L.length _ (World.ownsRow.alloc h _) ⟨w.heap.size, 0, none⟩ 1 1 [.int .i64 m.sn, .bool m.part, .int .i64 m.fr, .int .i64 m.to] rfl
    (World.news_of_block (cs := #[.int .i64 m.sn, .bool m.part, .int .i64 m.fr, .int .i64 m.to]) (heap_alloc_new w _)) (by intro u hu; simp at hu; rcases hu with rfl | rfl | rfl | rfl <;> rfl) (by omega) (by unfold maxLen; omega) (by omega) (by simp; omega) _ rfl
  refine ⟨g, cap, w3, hr3, ?_, ((Only.refl (fun k => v.ownBlock = some k) w).alloc (.cells #[.int .i64 m.sn, .bool m.part, .int .i64 m.fr, .int .i64 m.to] 159)).grown h3 (fun k hk => .inl hk)⟩
  unfold OwnD
  rw [List.length_append, mcells_append]
  exact h2
/-- what stands behind a round of As: the answer's box at q -/
structure AsSt (B : Nat) (w0 : World) (q : Nat) (ack : Int) (acc : List MissM) (mv : Value) (w : World) : Prop where
  box : Row w q 84 #[.int .i64 ack, mv]
  own : OwnD B w mv acc
  keep : ∀ (g : Nat) (t : TypeId) (cs : Array Value), t ≠ 159 → g ≠ q → Row w0 g t cs → Row w g t cs
  below : Below B w0 w
  size : B ≤ w.heap.size
  above : B ≤ q
theorem AsSt.more {B q : Nat} {w0 w v : World} {ack : Int} {acc : List MissM} {mv : Value} (h : AsSt B w0 q ack acc mv w) (hb : Below w.heap.size w v) : AsSt B w0 q ack acc mv v :=
  ⟨h.box.later hb, own_only h.own (.of_below hb) (fun _ _ h => h), fun g t cs h1 h2 h3 => (h.keep g t cs h1 h2 h3).later hb, h.below.trans (hb.mono h.size), Nat.le_trans h.size hb.size, h.above⟩
theorem AsSt.next {B q : Nat} {w0 w : World} {ack : Int} {acc : List MissM} {mv : Value} (h : AsSt B w0 q ack acc mv w) (m : MissM) (hl : acc.length ≤ 1000) :
    ∃ g c w3, (Builtin.append_ #[82, 82] 82 #[mv, .slice (some ⟨w.heap.size, 0, none⟩) 1 1]).run Try.prog (w.alloc (.cells #[.int .i64 m.sn, .bool m.part, .int .i64 m.fr, .int .i64 m.to] 159)) = .ok (.slice (some ⟨g, 0, none⟩) (acc.length + 1) c) w3 ∧
      w3.cell? ⟨q, 1, none⟩ = some mv ∧ w3.frozen? ⟨q, 1, none⟩ = false ∧
      AsSt B w0 q ack (acc ++ [m]) (.slice (some ⟨g, 0, none⟩) (acc.length + 1) c) (w3.setCell ⟨q, 1, none⟩ (.slice (some ⟨g, 0, none⟩) (acc.length + 1) c)) := by
  obtain ⟨g, c, w3, h1, h2, h3⟩ := h.own.next h.size m hl
  have hne : ∀ k t cs, Row w k t cs → t ≠ 159 → ¬ mv.ownBlock = some k := fun k t cs hk ht => own_apart h.own hk (Ne.symm ht)
  have hb : Row w3 q 84 #[.int .i64 ack, mv] := h.box.only h3 (hne _ _ _ h.box (by decide))
  refine ⟨g, c, w3, h1, hb.read rfl, hb.free _, hb.written 1 _, ?_, fun g' t cs t1 t2 hg => ?_, ?_, ?_, h.above⟩
  · exact own_only h2 ((Only.refl (fun k => k = q) w3).set (p := ⟨q, 1, none⟩) (.inl rfl) _) (fun k hk hS => own_apart h2 hb (by decide) (by rw [hk]; exact congrArg some hS))
  · have h9 := h.keep g' t cs t1 t2 hg
    exact (h9.only h3 (hne _ _ _ h9 t1)).elsewhere (p := ⟨q, 1, none⟩) t2 _
  · exact (h.below.trans (h3.below h.size (fun k hk hS => by have := (h.own.lt k hS).1; omega))).setCell (p := ⟨q, 1, none⟩) h.above _
  · rw [show (w3.setCell ⟨q, 1, none⟩ (.slice (some ⟨g, 0, none⟩) (acc.length + 1) c)).heap.size = w3.heap.size by simp [World.setCell]]
    exact Nat.le_trans h.size h3.size
end Go.Proofs.Ytbdjgdkafbkdbaa
namespace Go.Proofs.Ytbdjgdkafbkdbaa
open Go.RowKit

set_option maxRecDepth 100000 in
set_option maxHeartbeats 3200000 in
theorem sas_any {A : Option Addr} {L : List MissM} (ack : Int) (n cap : Nat) (w : World) (hL : L.length = n) (hn : n ≤ 60) (hs : MSrc w A L) :
    Calls Try.prog 51 #[.agg #[.int .i64 ack, .slice A n cap]] w fun e w' => ∃ A' c, e = .returned (.agg #[.int .i64 ack, .slice A' n c]) ∧ n ≤ c ∧ c ≤ 9223372036854775807 ∧ MSrc w' A' L ∧ Below w.heap.size w w' := by
  have HS := Lib.hid hs
  have HL := Lib.hid hL
  have hsz1 : (w.alloc (.cells #[.int .i64 ack, .slice A n cap] 81)).heap.size = w.heap.size + 1 := by simp
  have hsz2 : ((w.alloc (.cells #[.int .i64 ack, .slice A n cap] 81)).alloc (.cells #[.int .i64 0, .slice none 0 0] 84)).heap.size = w.heap.size + 1 + 1 := by simp
  have HW0 := Lib.hid (bl_alloc (bl_alloc (bl_alloc (Below.refl w.heap.size w) (.cells #[.int .i64 ack, .slice A n cap] 81)) (.cells #[.int .i64 0, .slice none 0 0] 84)) (.cells #[.int .i64 ack, .slice none 0 0] 84))
  have HR1 := Lib.hid (((Row.made w 81 #[.int .i64 ack, .slice A n cap]).more (.cells #[.int .i64 0, .slice none 0 0] 84)).more (.cells #[.int .i64 ack, .slice none 0 0] 84))
  have HR2 := Lib.hid ((row_at2 (w.alloc (.cells #[.int .i64 ack, .slice A n cap] 81)) (w.heap.size + 1) 84 #[.int .i64 0, .slice none 0 0] hsz1).more (.cells #[.int .i64 ack, .slice none 0 0] 84))
  have HR3 := Lib.hid (row_at2 ((w.alloc (.cells #[.int .i64 ack, .slice A n cap] 81)).alloc (.cells #[.int .i64 0, .slice none 0 0] 84)) (w.heap.size + 1 + 1) 84 #[.int .i64 ack, .slice none 0 0] hsz2)
  clear hs hL hsz1 hsz2
  go_enter Try.func51, Try.ntmps51
  go_wp2
  generalize hW : ((w.alloc (.cells #[.int .i64 ack, .slice A n cap] 81)).alloc (.cells #[.int .i64 0, .slice none 0 0] 84)).alloc (.cells #[.int .i64 ack, .slice none 0 0] 84) = W0 at *
  clear hW
  go_loopw [4] (fun i wr => ∃ (k : Nat) (mv : Value), k ≤ n ∧ i = .int .i64 k ∧ Hid (AsSt w.heap.size W0 (w.heap.size + 1 + 1) ack (L.take k) mv wr)) (fun i _ => n - (intOf i).toNat)
  case atStart => exact ⟨0, .slice none 0 0, by omega, rfl, Lib.hid ⟨HR3.out, World.ownsRow_nil _ _ _ _, fun _ _ _ _ _ h => h, Below.refl _ _, HW0.out.size, by omega⟩⟩
  case round =>
    obtain ⟨k, mv, hk, rfl, HST⟩ := hrel
    have RB := HST.out.keep _ _ _ (by decide) (by omega) HR1.out
    have c1 := RB.read (i := 1) rfl
    have HRB := Lib.hid RB
    clear RB
    by_cases hlt : k < n
    · obtain ⟨ab, ao, rfl, hc⟩ := HS.out (by rw [HL.out]; omega)
      obtain ⟨m, hr⟩ : ∃ r, L[k]? = some r := ⟨_, List.getElem?_eq_getElem (by rw [HL.out]; exact hlt)⟩
      obtain ⟨e0, e1, e2, e3⟩ := hc k _ hr
      have HWR := Lib.hid (HW0.out.trans HST.out.below)
      have f0 := cell_below HWR.out e0
      have f1 := cell_below HWR.out e1
      have f2 := cell_below HWR.out e2
      have f3 := cell_below HWR.out e3
      have HTK := Lib.hid (show L.take (k + 1) = L.take k ++ [m] by
        obtain ⟨h1, h2⟩ := List.getElem?_eq_some_iff.1 hr
        rw [List.take_succ_eq_append_getElem h1, h2])
      have HLK := Lib.hid (show (L.take k).length = k by rw [List.length_take, HL.out]; omega)
      have hkI : (k : Int) < (n : Int) := by omega
      have HST2 := Lib.hid (HST.out.more (bl_alloc (Below.refl _ _) (.cells #[.int .i64 m.sn, .bool m.part, .int .i64 m.fr, .int .i64 m.to] 100)))
      have HNX := Lib.hid (HST2.out.next m (by rw [HLK.out]; omega))
      rw [HLK.out] at HNX
      obtain ⟨g5, c5, w5, hrun, hcq, hfq, hst5⟩ := HNX.out
      have HST5 := Lib.hid hst5
      have RM := Row.made wr 100 #[.int .i64 m.sn, .bool m.part, .int .i64 m.fr, .int .i64 m.to]
      obtain ⟨⟨m0, m1, m2, m3⟩, -⟩ := cells4 RM
      have b1 := HST2.out.box.read (i := 1) rfl
      obtain ⟨Am, cm, rfl, _, _⟩ := HST.out.own.form
      rw [HLK.out] at hrun b1 hcq
      rw [size_1] at hrun
      clear hc hr e0 e1 e2 e3 hst5 RM HNX
      go_wp2_with (at_builtin; refine wpList_run rfl (.tmp 22) (.tmp 32) 82 rfl (.slice Am k cm) (.slice (some ⟨wr.heap.size + 1, 0, none⟩) 1 1) (by rfl) (by rfl) hrun ?_)
      go_roundw
      case rel => exact ⟨k + 1, _, by omega, by go_num, Lib.hid (by rw [HTK.out]; exact HST5.out)⟩
      case measure => simp [intOf]; omega
    · have hkn : k = n := by omega
      subst hkn
      have HTK := Lib.hid (show L.take k = L from List.take_of_length_le (by rw [HL.out]; exact Nat.le_refl _))
      have hlk : (L.take k).length = k := by rw [HTK.out, HL.out]
      obtain ⟨Am, cm, e, hc1, hc2⟩ := HST.out.own.form
      rw [hlk] at e hc1
      subst e
      clear hlk
      have RZ := HST.out.keep _ _ _ (by decide) (by omega) HR2.out
      have HRZ := Lib.hid RZ
      obtain ⟨⟨z0, z1⟩, y0, y1⟩ := cells2 RZ
      obtain ⟨⟨b0, b1⟩, -⟩ := cells2 HST.out.box
      clear RZ
      go_wp2
      obtain ⟨dd, hdd⟩ := underrst_parts
      have O1 : OwnD w.heap.size (wr.setCell ⟨w.heap.size + 1, 0, none⟩ (.int .i64 ack)) (.slice Am k cm) (L.take k) := own_only HST.out.own ((Only.refl (fun k => k = w.heap.size + 1) wr).set (p := ⟨w.heap.size + 1, 0, none⟩) (.inl rfl) (.int .i64 ack)) (fun j hj hS => own_apart HST.out.own HRZ.out (by decide) (by rw [hj]; exact congrArg some hS))
      have O2 : OwnD w.heap.size ((wr.setCell ⟨w.heap.size + 1, 0, none⟩ (.int .i64 ack)).setCell ⟨w.heap.size + 1, 1, none⟩ (.slice Am k cm)) (.slice Am k cm) (L.take k) := own_only O1 ((Only.refl (fun k => k = w.heap.size + 1) _).set (p := ⟨w.heap.size + 1, 1, none⟩) (.inl rfl) (.slice Am k cm)) (fun j hj hS => own_apart O1 (HRZ.out.written 0 (.int .i64 ack)) (by decide) (by rw [hj]; exact congrArg some hS))
      have HW := HW0.out.trans HST.out.below
      refine bodyPost_ret (results_cell_row rfl _ _ (w.heap.size + 1) 84 #[.int .i64 ack, .slice Am k cm] (0, 0) (.struct dd) rfl (row_set2 HRZ.out) hdd rfl Try.inforst) rfl ?_
      rw [HTK.out] at O2
      exact ⟨Am, cm, rfl, hc1, hc2, OwnD.src O2, (HW.setCell (p := ⟨w.heap.size + 1, 0, none⟩) (Nat.le_succ _) _).setCell (p := ⟨w.heap.size + 1, 1, none⟩) (Nat.le_succ _) _⟩
end Go.Proofs.Ytbdjgdkafbkdbaa
namespace Go.Proofs.Ytbdjgdkafbkdbaa


def okAt (n k m : Nat) : Bool := decide (1 ≤ m) && decide (m ≤ if k + 1 = n then 4000 else 2047)
/-- the first k of these lengths may be -/
def okTo (ls : List Nat) (k : Nat) : Bool := (List.range k).all fun j => okAt ls.length j (ls.getD j 0)
theorem okTo_zero (ls : List Nat) : okTo ls 0 = true := rfl
theorem okTo_succ (ls : List Nat) (k : Nat) : okTo ls (k + 1) = (okTo ls k && okAt ls.length k (ls.getD k 0)) := by
  unfold okTo
  rw [List.range_succ, List.all_append]
  simp
theorem okTo_at {ls : List Nat} {k m : Nat} (h : ls[k]? = some m) (h0 : okTo ls k = true) : okTo ls (k + 1) = okAt ls.length k m := by
  rw [okTo_succ, h0, List.getD_eq_getElem?_getD, h]
  rfl
theorem okTo_later {ls : List Nat} {k n : Nat} (h : okTo ls k = false) (hk : k ≤ n) : okTo ls n = false := by
  rw [← Bool.not_eq_true] at h ⊢
  intro h1
  apply h
  unfold okTo at *
  rw [List.all_eq_true] at *
  intro j hj
  exact h1 j (by rw [List.mem_range] at *; omega)
theorem okAt_small {n k m : Nat} (h : okAt n k m = true) : 1 ≤ m ∧ m ≤ 4000 ∧ (k + 1 ≠ n → m ≤ 2047) := by
  unfold okAt at h
  rw [Bool.and_eq_true, decide_eq_true_iff, decide_eq_true_iff] at h
  obtain ⟨h1, h2⟩ := h
  by_cases hk : k + 1 = n
  · rw [if_pos hk] at h2
    exact ⟨h1, h2, fun h => absurd hk h⟩
  · rw [if_neg hk] at h2
    exact ⟨h1, by omega, fun _ => h2⟩
theorem okTo_small {ls : List Nat} (h : okTo ls ls.length = true) {k m : Nat} (hm : ls[k]? = some m) : 1 ≤ m ∧ m ≤ 4000 ∧ (k + 1 ≠ ls.length → m ≤ 2047) := by
  have hk : k < ls.length := (List.getElem?_eq_some_iff.1 hm).1
  unfold okTo at h
  rw [List.all_eq_true] at h
  have h1 := h k (by rw [List.mem_range]; exact hk)
  rw [List.getD_eq_getElem?_getD, hm] at h1
  exact okAt_small h1
def sumTo (ls : List Nat) (k : Nat) : Nat := (ls.take k).sum
theorem sumTo_zero (ls : List Nat) : sumTo ls 0 = 0 := by simp [sumTo]
theorem sumTo_all (ls : List Nat) : sumTo ls ls.length = ls.sum := by simp [sumTo]
theorem sumTo_succ {ls : List Nat} {k m : Nat} (h : ls[k]? = some m) : sumTo ls (k + 1) = sumTo ls k + m := by
  obtain ⟨hk, rfl⟩ := List.getElem?_eq_some_iff.1 h
  unfold sumTo
  rw [List.take_succ_eq_append_getElem hk, List.sum_append]
  simp
theorem sumTo_le (ls : List Nat) (k : Nat) : sumTo ls k ≤ ls.sum := by
  have h := List.take_append_drop k ls
  have h1 : ls.sum = (ls.take k).sum + (ls.drop k).sum := by rw [← List.sum_append, h]
  unfold sumTo
  omega
theorem sumTo_bound {ls : List Nat} {k : Nat} (h : okTo ls k = true) (hk : k ≤ ls.length) : sumTo ls k ≤ 4000 * k := by
  induction k with
  | zero => simp [sumTo]
  | succ k ih =>
    have hm : ls[k]? = some ls[k] := List.getElem?_eq_getElem (by omega)
    rw [okTo_succ, Bool.and_eq_true, List.getD_eq_getElem?_getD, hm] at h
    have h1 := okAt_small h.2
    have h2 := ih h.1 (by omega)
    rw [sumTo_succ hm]
    simp only [Option.getD_some] at h1
    omega

/-- how many bytes fields have, with their lengths; 0: they may not be -/
def szF (ls : List Nat) (wd : Int) : Int := if 1 ≤ ls.length ∧ ls.length ≤ 24 ∧ okTo ls ls.length = true then sizeF ((ls.length : Int) - 1) wd + ls.sum else 0
/-- .. behind a head, at most 4000 in all -/
def fieldsF (ls : List Nat) (head wd : Int) : Int := if 1 ≤ ls.length ∧ ls.length ≤ 24 ∧ okTo ls ls.length = true ∧ head + sizeF ((ls.length : Int) - 1) wd + ls.sum ≤ 4000 then head + sizeF ((ls.length : Int) - 1) wd + ls.sum else 0
theorem sizeF_nonneg (n x : Int) : 0 ≤ sizeF n x ∧ sizeF n x ≤ 46 := by
  unfold sizeF
  split
  · rename_i h
    rw [Bool.and_eq_true, Bool.and_eq_true, decide_eq_true_iff, decide_eq_true_iff] at h
    obtain ⟨h1, h2, h3⟩ := h
    rcases okW_nat h1 with rfl | rfl <;> omega
  · omega
theorem szF_pos {ls : List Nat} {wd : Int} : (szF ls wd = 0 ∧ ¬ (1 ≤ ls.length ∧ ls.length ≤ 24 ∧ okTo ls ls.length = true)) ∨ (szF ls wd = sizeF ((ls.length : Int) - 1) wd + ls.sum ∧ 1 ≤ szF ls wd ∧ szF ls wd ≤ 100000 ∧ 1 ≤ ls.length ∧ ls.length ≤ 24 ∧ okTo ls ls.length = true) := by
  unfold szF
  split
  · rename_i h
    right
    obtain ⟨h1, h2, h3⟩ := h
    have h4 := sumTo_bound h3 (Nat.le_refl _)
    rw [sumTo_all] at h4
    have h5 := sizeF_nonneg ((ls.length : Int) - 1) wd
    have h6 : 1 ≤ ls.sum := by
      have hm : ls[0]? = some ls[0] := List.getElem?_eq_getElem (by omega)
      have h7 := okTo_small h3 hm
      have h8 := sumTo_succ hm
      have h9 := sumTo_le ls (0 + 1)
      omega
    exact ⟨rfl, by omega, by omega, h1, h2, h3⟩
  · exact .inl ⟨rfl, by assumption⟩
/-- the code's way to it -/
theorem fieldsF_code (ls : List Nat) (head wd : Int) : fieldsF ls head wd = if szF ls wd = 0 ∨ 4000 < head + szF ls wd then 0 else head + szF ls wd := by
  rcases szF_pos (ls := ls) (wd := wd) with ⟨h1, h2⟩ | ⟨h1, h2, h3, h4, h5, h6⟩
  · rw [if_pos (.inl h1)]
    unfold fieldsF
    rw [if_neg (fun h => h2 ⟨h.1, h.2.1, h.2.2.1⟩)]
  · unfold fieldsF
    by_cases h7 : 4000 < head + szF ls wd
    · rw [if_neg (fun h => by omega), if_pos (.inr h7)]
    · rw [if_pos ⟨h4, h5, h6, by omega⟩, if_neg (by omega)]
      omega
end Go.Proofs.Ytbdjgdkafbkdbaa
