/-
  Pieces of texts: more texts. glue: what was told stays; literal fields. What a glue answers to fixed calls. GlueJoins: what stands beside the glue.
-/
import Derived.Test.YtjobgnemklpiaaaJGlueLoses23
import Derived.Test.YtjobgnemklpiaaaJGlueLoses21
import Derived.Lib.SlBytesConst
namespace Go.Proofs.Ytjobgnemklpiaaa
open Go.RowKit

set_option maxRecDepth 100000 in
set_option maxHeartbeats 25600000 in
theorem pieces_gt {A0 A1 : Option Addr} {L0 : List RowB} {l1 : List Nat} (N0 N1 c0 c1 : Nat) (W : World) (hN0 : L0.length = N0) (hN1 : l1.length = N1) (hn0 : N0 ≤ 9223372036854775807) (hn1 : N1 ≤ 9223372036854775807)
    (hs0 : RSrc W A0 L0) (hs1 : Src W A1 (u16v l1)) (hb1 : ∀ b ∈ l1, b < 65536) (hpos : 0 < N1) (hq : 20 < N0) :
    Calls Try.prog 59 #[.slice A0 N0 c0, .slice A1 N1 c1] W (PiecesAns W) := by
  have HL0 := Lib.hid hN0
  have HL1 := Lib.hid hN1
  have HS0 := Lib.hid hs0
  have HS1 := Lib.hid hs1
  have HB1 := Lib.hid hb1
  have hz1 : ((N1 : Int) == 0) = false := by simp; omega
  clear hN0 hN1 hs0 hs1 hb1
  go_enter Try.func59, Try.ntmps59
  go_wp2_with fail
  refine (qnew_any W.heap.size 20000 W (Nat.le_refl _) (by omega) (by omega)).mono ?_
  rintro e w1 ⟨rfl, hq1, hb1⟩
  generalize hp : W.heap.size = p at *
  have HP := Lib.hid hp.symm
  have HC0 := Lib.hid (show CK W p 0 [] (.slice none 0 0) [] w1 from ⟨QS.start hq1 (by omega), World.ownsRow_nil _ _ _ _, rfl, (fun r hr => by cases hr), (fun t h => by cases h), hb1, hp.symm⟩)
  clear hq1 hb1 hp
  go_wp2_with fail
  go_loopw [10, 11] (fun kv iv wr => ∃ (k last : Nat) (ts : List Txt) (K : List RowB), k ≤ 20 ∧ last ≤ k ∧ iv = .int .i64 k ∧ Hid (CK W p last ts kv K wr)) (fun _ iv _ => 20 - (intOf iv).toNat)
  case atStart => exact ⟨0, 0, [], [], by omega, by omega, rfl, HC0⟩
  case round =>
    obtain ⟨k, last, ts, K, hk, hlk, rfl, HC⟩ := hrel
    obtain ⟨A, c, rfl, _⟩ := own_form HC.out.keep
    have hKm : K.length ≤ 64 := by have h1 := congrArg List.length HC.out.same; rw [List.length_map, List.length_map] at h1; have := HC.out.q.many; omega
    rcases Nat.lt_or_ge k 20 with hlt | hend
    · obtain ⟨r, hr⟩ : ∃ r, L0[k]? = some r := ⟨_, List.getElem?_eq_getElem (by rw [HL0.out]; omega)⟩
      obtain ⟨a0, rfl, hc⟩ := HS0.out (by rw [HL0.out]; omega)
      have HROK := Lib.hid (hc k r hr).2
      have HC9 := Lib.hid (hc k r hr).1
      have y1 := cell_below (HC.out.below.mono (Nat.le_of_eq HP.out.symm)) (hc k r hr).1
      have hlen := (hc k r hr).2.2.1
      have hcap := (hc k r hr).2.2.2.1
      unfold RowB.v at y1
      have hi0 : (0 : Int) ≤ (k : Int) := by omega
      have hi1 : (k : Int) < (N0 : Int) := by omega
      have hi2 : (k : Int) < 20 := by omega
      clear hc hr
      by_cases hl : 1100 < r.bs.length
      · have g1 : decide ((1100 : Int) < (r.bs.length : Int)) = true := decide_eq_true (by omega)
        have HBL := Lib.hid HC.out.below
        generalize K.length = nk at *
        go_wp2
        go_ret3
        rw [HP.out] at HBL
        exact .inl ⟨_, _, rfl, HBL.out⟩
      · have g1 : decide ((1100 : Int) < (r.bs.length : Int)) = false := decide_eq_false (by omega)
        have HPU := Lib.hid (HC.out.push r HROK.out (by omega))
        generalize K.length = nk at HPU HC ⊢
        go_wp2_with fail
        refine HPU.out.mono ?_
        rintro e w3 (⟨er, rfl, her, hP⟩ | ⟨nid, rfl, hb3, A', n', c', ekv, A9, c9, w9, t9, hrun, hP9⟩)
        · have HP3 := Lib.hid hP
          have g2 : (er == 0) = false := by simpa using her
          clear hP her
          go_wp2
          go_roundw
          case rel => exact ⟨k + 1, last, ts, K, by omega, by omega, by go_num, HP3⟩
          case measure => simp [intOf]; omega
        · injection ekv with e1 e2 e3
          subst e1 e2 e3
          have HP9 := Lib.hid hP9
          have y3 := cell_below (hb3.mono (Nat.le_of_eq HP.out.symm)) HC9.out
          unfold RowB.v at y3 hrun
          clear hP9 hb3
          go_wp2_with (at_builtin; refine wpList_run rfl (.tmp 59) (.tmp 64) 57 rfl (.slice A nk c) (.slice (some ⟨w3.heap.size, 0, none⟩) 1 1) (by rfl) (by rfl) hrun ?_)
          go_roundw
          case rel => exact ⟨k + 1, last + 1, ts ++ [t9], K ++ [r], by omega, by omega, by go_num, HP9⟩
          case measure => simp [intOf]; omega
    · have HC2 := Lib.hid HC.out.start
      generalize hnk : K.length = nk at HC2 ⊢
      have HNK := Lib.hid hnk
      have hnk64 : nk ≤ 64 := by omega
      clear HC hnk hKm
      have q1 : (k : Int) < (N0 : Int) := by omega
      have q2 : (20 : Int) ≤ (k : Int) := by omega
      clear hk hend
      go_wp2_with fail
      go_loopw [9, 14] (fun ov iv wt => ∃ (j last : Nat) (ts : List Txt) (P : List Pc), j ≤ 3000 ∧ P.length ≤ j ∧ iv = .int .i64 j ∧ Hid (CP W p last ts (.slice A nk c) K ov P wt)) (fun _ iv _ => 3000 - (intOf iv).toNat)
      case atStart => exact ⟨0, last, ts, [], by omega, by simp, rfl, HC2⟩
      case round =>
        clear HC2
        obtain ⟨j, last2, ts2, P, hj, hPj, rfl, HD⟩ := hrel
        obtain ⟨OA, oc, rfl, _⟩ := own_form HD.out.outO
        have hsm := HD.out.q.small
        have HBY := Lib.hid (qbytes_any HD.out.q.q (by omega) (by omega))
        have HPL := Lib.hid (rfl : P.length = P.length)
        obtain ⟨bf, hbf⟩ : ∃ bf, bytesF ts2 = bf := ⟨_, rfl⟩
        rw [hbf] at HBY hsm
        have HBF := Lib.hid hbf
        clear hbf
        have hways : (0 < bf ∧ j < 3000) ∨ (bf = 0 ∨ (0 < bf ∧ j = 3000)) := by omega
        rcases hways with ⟨hb0, hj3⟩ | hend
        · have hm9 : j % N1 < N1 := Nat.mod_lt _ hpos
          obtain ⟨v, hv⟩ : ∃ v, l1[j % N1]? = some v := ⟨_, List.getElem?_eq_getElem (by rw [HL1.out]; exact hm9)⟩
          obtain ⟨a1, rfl, z1⟩ := f_src_cell HS1.out (HD.out.below.mono (Nat.le_of_eq HP.out.symm)) (u16v_at hv)
          have hv9 := HB1.out v (List.mem_of_getElem? hv)
          have hmodj : Int.tmod (j : Int) (N1 : Int) = ((j % N1 : Nat) : Int) := by
            rw [Int.ofNat_tmod]
          have hmod : Int.tmod (v : Int) 400 = ((v % 400 : Nat) : Int) := by
            rw [Int.ofNat_tmod]
            rfl
          have hrm := Nat.mod_lt v (show 0 < 400 by omega)
          have hj0 : (0 : Int) ≤ (j : Int) := by omega
          have hjl : (j : Int) < 3000 := by omega
          have hbfi : (0 : Int) < (bf : Int) := by omega
          have HF0 := Lib.hid (show faultC (20 + ((v % 400 : Nat) : Int)) 11 = 0 by unfold faultC; rw [if_pos (by decide), if_neg (by omega)])
          have hmi : ((j % N1 : Nat) : Int) < (N1 : Int) := by omega
          generalize v % 400 = rm at *
          generalize j % N1 = jm at *
          clear hv
          go_wp2_with (go_at_call 47; (with_reducible refine HBY.out.mono ?_); rintro e w3 ⟨rfl, hb3⟩; (have z3 := cell_below hb3 z1); (have HD3 := Lib.hid (HD.out.later hb3)); (have HBU := Lib.hid (HD3.out.q.build (20 + (rm : Int)) 11 (by omega) HF0.out)); clear hb3)
          refine HBU.out.mono ?_
          rintro e w4 ⟨k, n, ts', hB, hR, hq', ho', ⟨hk0, hn0, rfl⟩ | ⟨hkn, A6, D6, L6, rfl, htx, ⟨c6, hn6⟩, d6, hi6⟩⟩
          · have HBL := Lib.hid (show Below p W (w4.alloc (.cells #[.int .i64 0, .slice none 0 0, .slice none 0 0] 91)) from (HD3.out.below.trans (ho'.below HD3.out.q.q.2.1)).trans ((bl_alloc (Below.refl w4.heap.size w4) _).mono hq'.q.2.1))
            clear hB hR hq' ho' hk0 hn0
            go_wp2
            go_ret3
            rw [HP.out] at HBL
            exact .inl ⟨_, _, rfl, HBL.out⟩
          · have hp9 : ∀ t ∈ ts2, 0 < t.bs.length := fun t ht => (HD3.out.q.bytes t ht).1
            have hlens : lens L6 = fieldsL (lenT ts2) k n := lens_fieldsT htx (by rcases hB.less with h | h; exact .inl h; exact .inr (by omega))
            have hfit := hB.fits (lenT_pos hp9) (show (0 : Int) ≤ 20 + (rm : Int) by omega) (show 0 < sizeF 1 11 by decide)
            rw [← hlens] at hfit
            have h24 : L6.length ≤ 24 := by have := hfit.2.2; rw [length_lens] at this; exact this
            have hkle : k ≤ ts2.length := by have := hB.le; rw [length_lenT] at this; exact this
            have hcs := rest_cstep (x := ⟨fiT ts2 n, A6, L6, D6, k⟩) HD3.out.q hR hkn hkle (hB.below hp9) rfl htx rfl h24
            have hbx := bl_alloc (Below.refl w4.heap.size w4) (.cells #[.int .i64 (fiT ts2 n), .slice A6 L6.length L6.length, .slice D6 k k] 91)
            obtain ⟨OB, on, od, eo, eon, A', c', w9, hrun, h9⟩ := HD3.out.next ho' hq' ⟨fiT ts2 n, A6, L6, D6, k⟩ hcs ⟨c6, ⟨own_down hn6.1 HD3.out.q.q.2.1, fun r hr => by
              obtain ⟨g, q1, q2, q3⟩ := hn6.2 r hr
              exact ⟨g, q1, Nat.le_trans HD3.out.q.q.2.1 q2, q3⟩⟩⟩ hbx (by omega)
            injection eo with e1 e2 e3
            subst e1 e3
            clear e2
            subst eon
            have hrow4 := Row.made w4 91 #[.int .i64 (fiT ts2 n), .slice A6 L6.length L6.length, .slice D6 k k]
            have H9 := Lib.hid h9
            have y0 := hrow4.read (i := 0) (x := .int .i64 (fiT ts2 n)) rfl
            have y1 := hrow4.read (i := 1) (x := .slice A6 L6.length L6.length) rfl
            have y2 := hrow4.read (i := 2) (x := .slice D6 k k) rfl
            have hPl : (P ++ [(⟨fiT ts2 n, A6, L6, D6, k⟩ : Pc)]).length ≤ j + 1 := by simp; omega
            have hsz4 : (w4.alloc (.cells #[.int .i64 (fiT ts2 n), .slice A6 L6.length L6.length, .slice D6 k k] 91)).heap.size = w4.heap.size + 1 := by simp
            rw [hsz4] at hrun
            generalize P ++ [(⟨fiT ts2 n, A6, L6, D6, k⟩ : Pc)] = P2 at *
            generalize hpl : P.length = pl at *
            generalize fiT ts2 n = fi at *
            generalize L6.length = l6 at *
            clear hlens hfit h24 hkle hcs hbx h9 hrow4 hB hR hq' ho' htx hn6 hi6 hp9 hkn hsz4 hpl
            go_wp2_with (at_builtin; refine wpList_run rfl (.tmp 92) (.tmp 94) 104 rfl (.slice OA pl oc) (.slice (some ⟨w4.heap.size + 1, 0, none⟩) 1 1) (by rfl) (by rfl) hrun ?_)
            go_roundw
            case rel => exact ⟨j + 1, last2, ts', P2, by omega, hPl, by go_num, H9⟩
            case measure => simp [intOf]; omega

        · have hen : decide ((bf : Int) > 0) = decide (0 < bf) := by simp
          have HBE := Lib.hid HD.out.below
          have HNO := Lib.hid HD
          generalize hpl : P.length = pl at *
          have HPP := Lib.hid hpl
          clear hpl HPL
          rcases hend with hb0 | ⟨hb0, hj9⟩
          · subst hb0
            have hno := HD.out.none HBF.out
            subst hno
            clear hen
            have HBY2 := Lib.hid (fun V (hV : Below wr.heap.size wr V) => (qbytes_any (HD.out.later hV).q.q (by omega) (by rw [HBF.out]; omega) : Calls Try.prog 47 #[.pointer (some ⟨p, 0, none⟩)] V fun e w' => e = .returned (.int .i64 (0 : Nat)) ∧ Below V.heap.size V w'))
            go_wp2_with (first
              | (go_at_call 47; (with_reducible refine HBY.out.mono ?_); rintro e w3 ⟨rfl, hb3⟩; (have HB3 := Lib.hid hb3); clear hb3)
              | (go_at_call 47; (with_reducible refine (HBY2.out _ HB3.out).mono ?_); rintro e w5 ⟨rfl, hb5⟩; (have HB5 := Lib.hid hb5); clear hb5))
            go_ret3
            rw [HP.out] at HD
            exact .inr ⟨last2, A, c, nk, K, OA, oc, P, by rw [HPP.out]; rfl, HNK.out.symm, hnk64, (by rw [HPP.out]; omega), (by rw [HPP.out]; exact (HD.out.later HB3.out).later HB5.out)⟩
          · have hj9i : (3000 : Int) ≤ (j : Int) := by omega
            have hbfi : (0 : Int) < (bf : Int) := by omega
            have hbz : ((bf : Int) == 0) = false := by simp; omega
            have HBY2 := Lib.hid (fun V (hV : Below wr.heap.size wr V) => (by
              have h := qbytes_any (HD.out.later hV).q.q (by omega) (by rw [HBF.out]; omega)
              rw [HBF.out] at h
              exact h : Calls Try.prog 47 #[.pointer (some ⟨p, 0, none⟩)] V fun e w' => e = .returned (.int .i64 bf) ∧ Below V.heap.size V w'))
            clear hen hj9
            go_wp2_with (first
              | (go_at_call 47; (with_reducible refine (HBY2.out _ HB3.out).mono ?_); rintro e w5 ⟨rfl, hb5⟩; (have HB5 := Lib.hid hb5); clear hb5)
              | (go_at_call 47; (with_reducible refine HBY.out.mono ?_); rintro e w3 ⟨rfl, hb3⟩; (have HB3 := Lib.hid hb3); clear hb3))
            go_ret3
            rw [HP.out] at HBE HD
            exact .inl ⟨_, _, by first | rfl | simp [hbz], (HBE.out.trans (HB3.out.mono HD.out.q.q.2.1)).trans (HB5.out.mono (Nat.le_trans HD.out.q.q.2.1 HB3.out.size))⟩
end Go.Proofs.Ytjobgnemklpiaaa
namespace Go.Proofs.Ytjobgnemklpiaaa
open Go.RowKit

theorem GRep.block_lt {B p : Nat} {w : World} {hv : Value} {s : GS} (h : GRep B w p hv s) : ∀ k, GS1 p hv k → k < w.heap.size := by
  intro k hk
  rcases hk with hk | hk
  · subst hk; exact h.1.inside
  · exact (own_block h.2 k hk).2
theorem GRep.block_ge {B p : Nat} {w : World} {hv : Value} {s : GS} (h : GRep B w p hv s) (hB : B ≤ p) : ∀ k, GS1 p hv k → B ≤ k := by
  intro k hk
  rcases hk with hk | hk
  · omega
  · exact (own_block h.2 k hk).1
/-- what was told lies in memory that the glue has left -/
def ToldIs (B : Nat) (w : World) (hv : Value) (A : Option Addr) (L : List RowB) : Prop :=
  (∃ C c, w.ownsRow C 61 1 (.slice A L.length c) L.length (L.map RowB.v)) ∧ ∀ r ∈ L, TOk B w hv r
theorem ToldIs.step {B p : Nat} {w v : World} {hv hv' : Value} {s : GS} {A : Option Addr} {L : List RowB} (h : ToldIs B w hv A L) (hp : GRep B w p hv s) (ho : Only (GS1 p hv) w v) (hg : GNext w hv hv') : ToldIs B v hv' A L := by
  obtain ⟨⟨C, c, a4⟩, a5⟩ := h
  refine ⟨⟨C, c, own_only a4 ho (fun k hk hx => ?_)⟩, fun r hr => (a5 r hr).step ho (fun g cs h6 h7 hx => ?_) hg⟩
  · rcases hx with hx | hx
    · subst hx; exact own_apart a4 hp.1 (by decide) hk
    · exact own_rows_apart a4 hp.2 (by decide) k hk hx
  · rcases hx with hx | hx
    · exact h6.apart hp.1 (by decide) hx
    · exact h7 hx
theorem ToldIs.later {B : Nat} {w v : World} {hv : Value} {A : Option Addr} {L : List RowB} (h : ToldIs B w hv A L) (hb : Below w.heap.size w v) : ToldIs B v hv A L := by
  obtain ⟨⟨C, c, a4⟩, a5⟩ := h
  exact ⟨⟨C, c, own_later2 a4 hb⟩, fun r hr => (a5 r hr).step (S := fun _ => False) (.of_below hb) (fun _ _ _ _ h => h) (GNext.refl _ _)⟩
theorem ToldIs.src {B : Nat} {w : World} {hv : Value} {A : Option Addr} {L : List RowB} (h : ToldIs B w hv A L) (hb : ∀ t ∈ texts L, ∀ x ∈ t, x < 256) : RSrc w A L := by
  obtain ⟨⟨C, c, h4⟩, h5⟩ := h
  have hok : ∀ r ∈ L, r.ok w := fun r hr => by
    have h9 := h5 r hr
    obtain ⟨g, cs, _, _, _, k1, k2, _⟩ := id h9
    exact ⟨h9.src, k1, k2, hb r.bs (List.mem_map.2 ⟨r, hr, rfl⟩)⟩
  rcases h4.2 with ⟨e, h0⟩ | ⟨g, cap, cur, e, _, _, h1, _, _⟩
  · intro h9
    omega
  · injection e with e1 e2 e3
    subst e1
    exact fun _ => ⟨_, rfl, fun k r hr => ⟨h4.cells (g := g) rfl k _ (by rw [List.getElem?_map, hr]; rfl), hok r (List.mem_of_getElem? hr)⟩⟩
theorem texts_one {L : List RowB} {t : List Nat} (h : texts L = [t]) : ∃ r, L = [r] ∧ r.bs = t := by
  match L, h with
  | [r], h =>
    refine ⟨r, rfl, ?_⟩
    simpa [texts] using h
theorem texts_nil {L : List RowB} (h : texts L = []) : L = [] := by
  simpa [texts] using h
/-- one text told -/
theorem PutDone.one {B p : Nat} {hv : Value} {s' : GS} {t : List Nat} {w w' : World} {e : Ending} (h : PutDone B p hv s' [t] w e w') : ∃ hv' ad r, e = .returned (.tuple #[.slice (some ad) 1 1, .int .i64 0]) ∧ r.bs = t ∧ GRep B w' p hv' s' ∧ Only (GS1 p hv) w w' ∧ GNext w hv hv' ∧ ToldIs B w' hv' (some ad) [r] := by
  obtain ⟨hv', L, A, rfl, h1, h2, h3, h4, h5, h6, h7⟩ := h
  obtain ⟨r, rfl, hr⟩ := texts_one h1
  obtain ⟨ad, rfl, _⟩ := h3 (by simp)
  exact ⟨hv', ad, r, rfl, hr, h2, h4, h5, h6, h7⟩
/-- nothing told -/
theorem PutDone.none {B p : Nat} {hv : Value} {s' : GS} {w w' : World} {e : Ending} (h : PutDone B p hv s' [] w e w') : ∃ hv' A, e = .returned (.tuple #[.slice A 0 0, .int .i64 0]) ∧ GRep B w' p hv' s' ∧ Only (GS1 p hv) w w' ∧ GNext w hv hv' := by
  obtain ⟨hv', L, A, rfl, h1, h2, h3, h4, h5, h6, h7⟩ := h
  obtain rfl := texts_nil h1
  exact ⟨hv', A, rfl, h2, h4, h5⟩
theorem fresh_row {B p g : Nat} {t : TypeId} {cs : Array Value} {W0 w W : World} {hv : Value} {s : GS} (h : Row w g t cs) (h0 : GRep B W0 p hv s) (hg : W0.heap.size ≤ g) (ho : Only (GS1 p hv) w W) : Row W g t cs :=
  h.only ho (fun hx => by have := h0.block_lt g hx; omega)
/-- a row, marked or not -/
def RowF (w : World) (g : Nat) (t : TypeId) (cs : Array Value) : Prop := ∃ fr, w.heap[g]? = some (.cells cs t fr)
theorem RowF.of {w : World} {g : Nat} {t : TypeId} {cs : Array Value} (h : Row w g t cs) : RowF w g t cs := ⟨_, h⟩
theorem RowF.inside {w : World} {g : Nat} {t : TypeId} {cs : Array Value} (h : RowF w g t cs) : g < w.heap.size := by
  obtain ⟨fr, h⟩ := h
  rcases Nat.lt_or_ge g w.heap.size with h1 | h1
  · exact h1
  · exfalso
    rw [Array.getElem?_eq_none h1] at h
    cases h
theorem RowF.made (w : World) (t : TypeId) (cs : Array Value) (fr : Nat × Nat) : RowF (w.alloc (.cells cs t fr)) w.heap.size t cs := ⟨fr, heap_alloc_new w _⟩
theorem RowF.made1 (w : World) (o : Obj) (t : TypeId) (cs : Array Value) (fr : Nat × Nat) : RowF ((w.alloc o).alloc (.cells cs t fr)) (w.heap.size + 1) t cs := by
  have h := RowF.made (w.alloc o) t cs fr
  have e : (w.alloc o).heap.size = w.heap.size + 1 := by simp
  rw [e] at h
  exact h
theorem RowF.only {S : Nat → Prop} {w v : World} {g : Nat} {t : TypeId} {cs : Array Value} (h : RowF w g t cs) (ho : Only S w v) (hg : ¬ S g) : RowF v g t cs := by
  have hi := h.inside
  obtain ⟨fr, h⟩ := h
  exact ⟨fr, (ho.same g hi hg).trans h⟩
theorem RowF.later {w v : World} {g : Nat} {t : TypeId} {cs : Array Value} (h : RowF w g t cs) (hb : Below w.heap.size w v) : RowF v g t cs := h.only (S := fun _ => False) (.of_below hb) (fun h => h)
theorem RowF.more {w : World} {g : Nat} {t : TypeId} {cs : Array Value} (h : RowF w g t cs) (o : Obj) : RowF (w.alloc o) g t cs := h.later (bl_alloc (Below.refl _ _) o)
theorem RowF.src {w : World} {g : Nat} {l : List Nat} (h : RowF w g 5 (bts l).toArray) : Src w (some ⟨g, 0, none⟩) (bts l) := fun _ => ⟨_, rfl, fun j u hu => by
  obtain ⟨fr, h⟩ := h
  rw [add_zero_addr]
  exact (cell_of_row w g j _ 5 fr h).trans (by rw [List.getElem?_toArray]; exact hu)⟩
theorem fresh_rowF {B p g : Nat} {t : TypeId} {cs : Array Value} {W0 w W : World} {hv : Value} {s : GS} (h : RowF w g t cs) (h0 : GRep B W0 p hv s) (hg : W0.heap.size ≤ g) (ho : Only (GS1 p hv) w W) : RowF W g t cs :=
  h.only ho (fun hx => by have := h0.block_lt g hx; omega)
theorem g_ok {w : World} {g : Nat} {l : List Nat} (h : RowF w g 5 (bts l).toArray) (hb : ∀ b ∈ l, b < 256) (hl : l.length ≤ 9223372036854775807) : RowB.ok w ⟨some ⟨g, 0, none⟩, l.length, l⟩ := ⟨h.src, Nat.le_refl _, hl, hb⟩
theorem g_rsrc {w : World} {g : Nat} {L : List RowB} (h : Row w g 61 (L.map RowB.v).toArray) (hok : ∀ r ∈ L, r.ok w) : RSrc w (some ⟨g, 0, none⟩) L := fun _ => ⟨_, rfl, fun k r hr => ⟨by
  rw [add_zero_addr]
  exact h.read (by rw [List.getElem?_toArray, List.getElem?_map, hr]; rfl), hok r (List.mem_of_getElem? hr)⟩⟩
theorem gput_lit1 {B p g1 g2 : Nat} {W0 w : World} {hv : Value} {s : GS} (fi : Nat) (gap : Bool) (b : Nat) (h0 : GRep B W0 p hv s) (hb : Below W0.heap.size W0 w) (hg1 : W0.heap.size ≤ g1) (hg2 : W0.heap.size ≤ g2) (hB : B ≤ W0.heap.size)
    (h1 : RowF w g1 5 #[.int .u8 (b : Nat)]) (h2 : Row w g2 61 #[.slice (some ⟨g1, 0, none⟩) 1 1]) (hb1 : b < 256) (hlost : s.lost ≤ 10000) (hheld : s.held.length ≤ 1000) (hby : ∀ x ∈ s.held, x < 256) (hfi : fi ≤ 3) :
    Calls Try.prog 62 #[.pointer (some ⟨p, 0, none⟩), .int .i64 fi, .slice (some ⟨g2, 0, none⟩) 1 1, .bool gap] w (PutDone B p hv (putG fi [[b]] gap s).1 (putG fi [[b]] gap s).2 w) :=
  gput_ok (L := [⟨some ⟨g1, 0, none⟩, 1, [b]⟩]) fi 1 1 gap (h0.later hb) rfl (Nat.le_trans hB hb.size) (fun W ho => g_rsrc (fresh_row h2 h0 hg2 ho) (fun r hr => by
    rw [List.mem_singleton] at hr
    subst hr
    exact g_ok (l := [b]) (fresh_rowF h1 h0 hg1 ho) (by simpa using hb1) (by simp))) (by
    unfold okG
    simp [lens]
    omega) (by
    intro _ r hr
    simp at hr
    subst hr
    simp) hlost hheld hby
theorem gput_lit2 {B p g1 g2 g3 : Nat} {W0 w : World} {hv : Value} {s : GS} (fi : Nat) (gap : Bool) (b c d : Nat) (h0 : GRep B W0 p hv s) (hb : Below W0.heap.size W0 w) (hg1 : W0.heap.size ≤ g1) (hg2 : W0.heap.size ≤ g2) (hg3 : W0.heap.size ≤ g3) (hB : B ≤ W0.heap.size)
    (h1 : RowF w g1 5 #[.int .u8 (b : Nat)]) (h2 : RowF w g2 5 #[.int .u8 (c : Nat), .int .u8 (d : Nat)]) (h3 : Row w g3 61 #[.slice (some ⟨g1, 0, none⟩) 1 1, .slice (some ⟨g2, 0, none⟩) 2 2]) (hb1 : b < 256) (hc1 : c < 256) (hd1 : d < 256) (hlost : s.lost ≤ 10000) (hheld : s.held.length ≤ 1000) (hby : ∀ x ∈ s.held, x < 256) (hfi : fi ≤ 3) :
    Calls Try.prog 62 #[.pointer (some ⟨p, 0, none⟩), .int .i64 fi, .slice (some ⟨g3, 0, none⟩) 2 2, .bool gap] w (PutDone B p hv (putG fi [[b], [c, d]] gap s).1 (putG fi [[b], [c, d]] gap s).2 w) :=
  gput_ok (L := [⟨some ⟨g1, 0, none⟩, 1, [b]⟩, ⟨some ⟨g2, 0, none⟩, 2, [c, d]⟩]) fi 2 2 gap (h0.later hb) rfl (Nat.le_trans hB hb.size) (fun W ho => g_rsrc (fresh_row h3 h0 hg3 ho) (fun r hr => by
    rw [List.mem_cons, List.mem_singleton] at hr
    rcases hr with rfl | rfl
    · exact g_ok (l := [b]) (fresh_rowF h1 h0 hg1 ho) (by simpa using hb1) (by simp)
    · exact g_ok (l := [c, d]) (fresh_rowF h2 h0 hg2 ho) (by simp; omega) (by simp))) (by
    unfold okG
    simp [lens]
    omega) (by
    intro _ r hr
    simp at hr
    subst hr
    simp) hlost hheld hby
end Go.Proofs.Ytjobgnemklpiaaa
namespace Go.Proofs.Ytjobgnemklpiaaa
open Go.RowKit

theorem g_row1 (w : World) (o : Obj) (t : TypeId) (cs : Array Value) : Row ((w.alloc o).alloc (.cells cs t)) (w.heap.size + 1) t cs := by
  have h := Row.made (w.alloc o) t cs
  have e : (w.alloc o).heap.size = w.heap.size + 1 := by simp
  rw [e] at h
  exact h
theorem g_row2 (w : World) (o o' : Obj) (t : TypeId) (cs : Array Value) : Row (((w.alloc o).alloc o').alloc (.cells cs t)) (w.heap.size + 1 + 1) t cs := by
  have h := Row.made ((w.alloc o).alloc o') t cs
  have e : ((w.alloc o).alloc o').heap.size = w.heap.size + 1 + 1 := by simp
  rw [e] at h
  exact h
theorem gal1 {p : Nat} {w : World} {hv : Value} (h0 : GRep p w p hv ⟨[], 0⟩) :
    Calls Try.prog 62 #[.pointer (some ⟨p, 0, none⟩), .int .i64 1, .slice (some ⟨w.heap.size + 1 + 1, 0, none⟩) 2 2, .bool false] (((w.alloc (.cells #[.int .u8 120] 5 (1, 2))).alloc (.cells #[.int .u8 97, .int .u8 98] 5 (2, 3))).alloc (.cells #[.slice (some ⟨w.heap.size, 0, none⟩) 1 1, .slice (some ⟨w.heap.size + 1, 0, none⟩) 2 2] 61))
      fun e w' => ∃ hv' ad r, e = .returned (.tuple #[.slice (some ad) 1 1, .int .i64 0]) ∧ r.bs = [120] ∧ GRep p w' p hv' ⟨[97, 98], 0⟩ ∧ Below p w w' ∧ ToldIs p w' hv' (some ad) [r] := by
  have hb := bl_alloc (bl_alloc (bl_alloc (Below.refl w.heap.size w) (.cells #[.int .u8 120] 5 (1, 2))) (.cells #[.int .u8 97, .int .u8 98] 5 (2, 3))) (.cells #[.slice (some ⟨w.heap.size, 0, none⟩) 1 1, .slice (some ⟨w.heap.size + 1, 0, none⟩) 2 2] 61)
  have hp := h0.1.inside
  refine (gput_lit2 (g1 := w.heap.size) (g2 := w.heap.size + 1) 1 false 120 97 98 h0 hb (Nat.le_refl _) (by omega) (by omega) (by omega) (((RowF.made w 5 #[.int .u8 120] _).more _).more _) ((RowF.made1 w _ 5 #[.int .u8 97, .int .u8 98] _).more _) (g_row2 w _ _ _ _) (by omega) (by omega) (by omega) (by simp) (by simp) (by simp) (by omega)).mono ?_
  intro e w' h
  obtain ⟨hv', ad, r, h1, h2, h3, h4, _, h5⟩ := (show PutDone p p hv ⟨[97, 98], 0⟩ [[120]] _ e w' from h).one
  exact ⟨hv', ad, r, h1, h2, h3, (hb.mono (by omega)).trans (h4.below (Nat.le_trans (by omega) hb.size) (fun k hk hx => by
    have := h0.block_ge (Nat.le_refl _) k hx
    omega)), h5⟩
theorem gal2 {p : Nat} {w : World} {hv : Value} {ad : Addr} {r : RowB} (h0 : GRep p w p hv ⟨[97, 98], 0⟩) (ht : ToldIs p w hv (some ad) [r]) :
    Calls Try.prog 62 #[.pointer (some ⟨p, 0, none⟩), .int .i64 2, .slice (some ⟨w.heap.size + 1, 0, none⟩) 1 1, .bool false] ((w.alloc (.cells #[.int .u8 99] 5 (1, 2))).alloc (.cells #[.slice (some ⟨w.heap.size, 0, none⟩) 1 1] 61))
      fun e w' => ∃ hv' ad' r', e = .returned (.tuple #[.slice (some ad') 1 1, .int .i64 0]) ∧ r'.bs = [97, 98, 99] ∧ GRep p w' p hv' ⟨[], 0⟩ ∧ Below p w w' ∧ ToldIs p w' hv' (some ad') [r'] ∧ ToldIs p w' hv' (some ad) [r] := by
  have hb := bl_alloc (bl_alloc (Below.refl w.heap.size w) (.cells #[.int .u8 99] 5 (1, 2))) (.cells #[.slice (some ⟨w.heap.size, 0, none⟩) 1 1] 61)
  have hp := h0.1.inside
  refine (gput_lit1 (g1 := w.heap.size) 2 false 99 h0 hb (Nat.le_refl _) (by omega) (by omega) ((RowF.made w 5 #[.int .u8 99] _).more _) (g_row1 w _ _ _) (by omega) (by simp) (by simp) (by simp) (by omega)).mono ?_
  intro e w' h
  obtain ⟨hv', ad', r', h1, h2, h3, h4, h6, h5⟩ := (show PutDone p p hv ⟨[], 0⟩ [[97, 98, 99]] _ e w' from h).one
  exact ⟨hv', ad', r', h1, h2, h3, (hb.mono (by omega)).trans (h4.below (Nat.le_trans (by omega) hb.size) (fun k hk hx => by
    have := h0.block_ge (Nat.le_refl _) k hx
    omega)), h5, (ht.later hb).step (h0.later hb) h4 h6⟩
theorem gal3 {p : Nat} {w : World} {hv : Value} {ad ad2 : Addr} {r r2 : RowB} (h0 : GRep p w p hv ⟨[], 0⟩) (ht : ToldIs p w hv (some ad) [r]) (ht2 : ToldIs p w hv (some ad2) [r2]) :
    Calls Try.prog 62 #[.pointer (some ⟨p, 0, none⟩), .int .i64 2, .slice (some ⟨w.heap.size + 1, 0, none⟩) 1 1, .bool false] ((w.alloc (.cells #[.int .u8 100] 5 (1, 2))).alloc (.cells #[.slice (some ⟨w.heap.size, 0, none⟩) 1 1] 61))
      fun e w' => ∃ hv' A, e = .returned (.tuple #[.slice A 0 0, .int .i64 0]) ∧ GRep p w' p hv' ⟨[], 1⟩ ∧ Below p w w' ∧ ToldIs p w' hv' (some ad) [r] ∧ ToldIs p w' hv' (some ad2) [r2] := by
  have hb := bl_alloc (bl_alloc (Below.refl w.heap.size w) (.cells #[.int .u8 100] 5 (1, 2))) (.cells #[.slice (some ⟨w.heap.size, 0, none⟩) 1 1] 61)
  have hp := h0.1.inside
  refine (gput_lit1 (g1 := w.heap.size) 2 false 100 h0 hb (Nat.le_refl _) (by omega) (by omega) ((RowF.made w 5 #[.int .u8 100] _).more _) (g_row1 w _ _ _) (by omega) (by simp) (by simp) (by simp) (by omega)).mono ?_
  intro e w' h
  obtain ⟨hv', A, h1, h3, h4, h6⟩ := (show PutDone p p hv ⟨[], 1⟩ [] _ e w' from h).none
  exact ⟨hv', A, h1, h3, (hb.mono (by omega)).trans (h4.below (Nat.le_trans (by omega) hb.size) (fun k hk hx => by
    have := h0.block_ge (Nat.le_refl _) k hx
    omega)), (ht.later hb).step (h0.later hb) h4 h6, (ht2.later hb).step (h0.later hb) h4 h6⟩
theorem gal4 {p : Nat} {w : World} {hv : Value} (h0 : GRep p w p hv ⟨[], 1⟩) :
    Calls Try.prog 62 #[.pointer (some ⟨p, 0, none⟩), .int .i64 4, .slice (some ⟨w.heap.size + 1, 0, none⟩) 1 1, .bool false] ((w.alloc (.cells #[.int .u8 100] 5 (1, 2))).alloc (.cells #[.slice (some ⟨w.heap.size, 0, none⟩) 1 1] 61))
      fun e w' => e = .returned (.tuple #[.slice none 0 0, .int .i64 1]) ∧ Below w.heap.size w w' := by
  have hb := bl_alloc (bl_alloc (Below.refl w.heap.size w) (.cells #[.int .u8 100] 5 (1, 2))) (.cells #[.slice (some ⟨w.heap.size, 0, none⟩) 1 1] 61)
  refine (gput_bad (L := [⟨some ⟨w.heap.size, 0, none⟩, 1, [100]⟩]) 4 1 1 false (h0.later hb) rfl (by omega) (g_rsrc (g_row1 w _ _ _) (fun r hr => by
    rw [List.mem_singleton] at hr
    subst hr
    exact g_ok (l := [100]) ((RowF.made w 5 #[.int .u8 100] _).more _) (by simp) (by simp))) (by unfold okG; simp [lens])).mono ?_
  rintro e w' ⟨h1, h2⟩
  exact ⟨h1, bl_step hb h2⟩
set_option maxRecDepth 100000 in
set_option maxHeartbeats 3200000 in
theorem galive_any (w : World) : Calls Try.prog 60 #[] w fun e w' => e = .returned (.bool true) ∧ Below w.heap.size w w' := by
  have kc1 := fun w => Lib.run_convert_bytes_const (P := Try.prog) w 61 5 #[.int .u8 120] 1 1 Try.underlying61 Try.underlying5
  have kc2 : ∀ (w : World) (o : Obj), (convert 61 61 (.slice (some ⟨w.heap.size + 1, 0, none⟩) 2 2)).run Try.prog ((w.alloc o).alloc (.cells #[.int .u8 97, .int .u8 98] 5)) = .ok (.slice (some ⟨w.heap.size + 1, 0, none⟩) 2 2) ((w.alloc o).alloc (.cells #[.int .u8 97, .int .u8 98] 5 (2, 3))) := by
    intro w o
    have h := Lib.run_convert_bytes_const (P := Try.prog) (w.alloc o) 61 5 #[.int .u8 97, .int .u8 98] 2 2 Try.underlying61 Try.underlying5
    rw [show (w.alloc o).heap.size = w.heap.size + 1 by simp] at h
    exact h
  have kc3 := fun w => Lib.run_convert_bytes_const (P := Try.prog) w 61 5 #[.int .u8 99] 1 1 Try.underlying61 Try.underlying5
  have kc4 := fun w => Lib.run_convert_bytes_const (P := Try.prog) w 61 5 #[.int .u8 100] 1 1 Try.underlying61 Try.underlying5
  go_enter Try.func60, Try.ntmps60
  go_wp2_with fail
  refine (gnew_any w).mono ?_
  rintro e w1 ⟨rfl, hg1, hb1⟩
  generalize hp : w.heap.size = p at *
  have HP := Lib.hid hp
  have HG1 := Lib.hid hg1
  have HB1 := Lib.hid hb1
  clear hg1 hb1 hp
  go_wp2_with (first
    | (go_at_call 62; (with_reducible refine (gal1 HG1.out).mono ?_); rintro e w2 ⟨hv2, ad2, r2, rfl, hr2, hg2, hb2, ht2⟩; (have HG2 := Lib.hid hg2; have HB2 := Lib.hid hb2; have HT2 := Lib.hid ht2; have HR2 := Lib.hid hr2; have HHE2 := Lib.hid (gheld_any hg2); clear hg2 hb2 ht2 hr2))
    | (go_at_call 62; (with_reducible refine (gal2 HG2.out HT2.out).mono ?_); rintro e w3 ⟨hv3, ad3, r3, rfl, hr3, hg3, hb3, ht3, ht32⟩; (have HG3 := Lib.hid hg3; have HB3 := Lib.hid hb3; have HT3 := Lib.hid ht3; have HT32 := Lib.hid ht32; have HR3 := Lib.hid hr3; clear hg3 hb3 ht3 ht32 hr3))
    | (go_at_call 62; (with_reducible refine (gal3 HG3.out HT32.out HT3.out).mono ?_); rintro e w4 ⟨hv4, A4, rfl, hg4, hb4, ht42, ht43⟩; (have HG4 := Lib.hid hg4; have HB4 := Lib.hid hb4; have HT42 := Lib.hid ht42; have HT43 := Lib.hid ht43; clear hg4 hb4 ht42 ht43))
    | (go_at_call 62; (with_reducible refine (gal4 HG4.out).mono ?_); rintro e w5 ⟨rfl, hb5⟩; (have HB5 := Lib.hid hb5; have HL5 := Lib.hid (glost_any (HG4.out.later hb5)); have s2 := (HT42.out.later hb5).src (by simp [texts, HR2.out]); have s3 := (HT43.out.later hb5).src (by simp [texts, HR3.out]); obtain ⟨a2, e2, q2⟩ := s2 (by simp); obtain ⟨a3, e3, q3⟩ := s3 (by simp); injection e2 with e2; injection e3 with e3; subst e2; subst e3; have k2 := q2 0 r2 rfl; have k3 := q3 0 r3 rfl; rw [addr_zero] at k2 k3; unfold RowB.v at k2 k3; rw [HR2.out] at k2; rw [HR3.out] at k3; have x2 := k2.1; have x3 := k3.1; have cv2 := conv_src (w := w5) (A := r2.A) (l := [120]) 1 r2.cap rfl (by have := k2.2.1; rw [HR2.out] at this; exact this) (by simp); have cv3 := conv_src (w := w5) (A := r3.A) (l := [97, 98, 99]) 3 r3.cap rfl (by have := k3.2.1; rw [HR3.out] at this; exact this) (by simp); simp only [List.length_cons, List.length_nil, Nat.zero_add, Nat.reduceAdd] at x2 x3; have z2 : strOf [120] = ⟨#[120]⟩ := rfl; have z3 : strOf [97, 98, 99] = ⟨#[97, 98, 99]⟩ := rfl; rw [z2] at cv2; rw [z3] at cv3; clear hb5 q2 q3 k2 k3 z2 z3))
    | (go_at_call 63; (with_reducible refine HHE2.out.mono ?_); rintro e wx ⟨rfl, rfl⟩)
    | (go_at_call 64; (with_reducible refine HL5.out.mono ?_); rintro e wx ⟨rfl, rfl⟩))
  go_ret
  refine ⟨rfl, ?_⟩
  rw [HP.out]
  exact (((HB1.out.trans HB2.out).trans HB3.out).trans HB4.out).trans (HB5.out.mono (by have := HG4.out.1.inside; omega))
end Go.Proofs.Ytjobgnemklpiaaa
namespace Go.Proofs.Ytjobgnemklpiaaa
open Go.RowKit

theorem pieces_any {A0 A1 : Option Addr} {L0 : List RowB} {l1 : List Nat} (N0 N1 c0 c1 : Nat) (W : World) (hN0 : L0.length = N0) (hN1 : l1.length = N1) (hn0 : N0 ≤ 9223372036854775807) (hn1 : N1 ≤ 9223372036854775807)
    (hs0 : RSrc W A0 L0) (hs1 : Src W A1 (u16v l1)) (hb1 : ∀ b ∈ l1, b < 65536) :
    Calls Try.prog 59 #[.slice A0 N0 c0, .slice A1 N1 c1] W (PiecesAns W) := by
  rcases Nat.eq_zero_or_pos N1 with h | h
  · subst h
    exact pc_none N0 c0 c1
  · rcases Nat.lt_or_ge 20 N0 with h2 | h2
    · exact pieces_gt N0 N1 c0 c1 W hN0 hN1 hn0 hn1 hs0 hs1 hb1 h h2
    · exact pieces_le N0 N1 c0 c1 W hN0 hN1 hn0 hn1 hs0 hs1 hb1 h h2
theorem cells_at {P : List Pc} {i : Nat} {x : Pc} (h : P[i]? = some x) : (P.flatMap Pc.cells)[i * 3]? = some (.int .i64 x.fi) ∧ (P.flatMap Pc.cells)[i * 3 + 1]? = some (.slice x.A x.L.length x.L.length) ∧ (P.flatMap Pc.cells)[i * 3 + 2]? = some (.slice x.D x.k x.k) := by
  induction P generalizing i with
  | nil => simp at h
  | cons z r ih =>
    cases i with
    | zero => simp at h; subst h; exact ⟨rfl, rfl, rfl⟩
    | succ i =>
      have h2 := ih (i := i) (by simpa using h)
      rw [show (i + 1) * 3 = i * 3 + 1 + 1 + 1 by omega]
      simp only [List.flatMap_cons, Pc.cells]
      simpa using h2
/-- the pieces in memory -/
structure PM (w : World) (OA : Option Addr) (P : List Pc) : Prop where
  cell : ∀ i x, P[i]? = some x → ∃ g, OA = some ⟨g, 0, none⟩ ∧ w.cell? ⟨g, i * 3, none⟩ = some (.int .i64 x.fi) ∧ w.cell? ⟨g, i * 3 + 1, none⟩ = some (.slice x.A x.L.length x.L.length) ∧ w.cell? ⟨g, i * 3 + 2, none⟩ = some (.slice x.D x.k x.k)
  rows : ∀ x ∈ P, RSrc w x.A x.L ∧ ∀ r ∈ x.L, 0 < r.bs.length ∧ r.bs.length ≤ 100000
theorem PM.later {w v : World} {OA : Option Addr} {P : List Pc} (h : PM w OA P) (hb : Below w.heap.size w v) : PM v OA P :=
  ⟨fun i x hx => by
    obtain ⟨g, h1, h2, h3, h4⟩ := h.cell i x hx
    exact ⟨g, h1, kept_box hb h2, kept_box hb h3, kept_box hb h4⟩, fun x hx => ⟨(h.rows x hx).1.later hb, (h.rows x hx).2⟩⟩
theorem own_cell3 {B e n c : Nat} {w : World} {A : Option Addr} {xs : List Value} (h : w.ownsRow B e 3 (.slice A n c) n xs) (hn : 0 < n) : ∃ g, A = some ⟨g, 0, none⟩ ∧ ∀ j u, xs[j]? = some u → w.cell? ⟨g, j, none⟩ = some u := by
  rcases h.2 with ⟨e9, h0⟩ | ⟨g, cap, cur, e9, _, hh, _, _, _, htake⟩
  · omega
  · injection e9 with e1 e2 e3
    subst e1
    refine ⟨g, rfl, fun j u hu => ?_⟩
    rw [cell_of_row w g j cur e (0, 0) hh]
    rw [← htake, List.getElem?_take] at hu
    split at hu
    · simpa using hu
    · cases hu
theorem CP.pm {W w : World} {p last pn d : Nat} {ts : List Txt} {kept : Value} {K : List RowB} {OA : Option Addr} {P : List Pc} (h : CP W p last ts kept K (.slice OA pn d) P w) (hpn : pn = P.length) : PM w OA P := by
  subst hpn
  refine ⟨fun i x hx => ?_, fun x hx => ?_⟩
  · obtain ⟨g, h1, h2⟩ := own_cell3 h.outO (by have := (List.getElem?_eq_some_iff.1 hx).1; omega)
    obtain ⟨q1, q2, q3⟩ := cells_at hx
    exact ⟨g, h1, h2 _ _ q1, h2 _ _ q2, h2 _ _ q3⟩
  · obtain ⟨c, h1⟩ := h.rows x hx
    refine ⟨h1.src, fun r hr => ?_⟩
    obtain ⟨_, _, _, _, _, q5, q6, _⟩ := h1.2 r hr
    exact ⟨q5, q6⟩
theorem CP.kept_src {W w : World} {p last nk c : Nat} {ts : List Txt} {A : Option Addr} {K : List RowB} {out : Value} {P : List Pc} (h : CP W p last ts (.slice A nk c) K out P w) : RSrc w A K := by
  have hb : Below W.heap.size W w := h.below.mono (Nat.le_of_eq h.base.symm)
  rcases h.keep.2 with ⟨e, h0⟩ | ⟨g, cap, cur, e, _, _, _⟩
  · intro h9
    omega
  · injection e with e1 e2 e3
    subst e1
    exact fun _ => ⟨_, rfl, fun k r hr => ⟨h.keep.cells (g := g) rfl k _ (by rw [List.getElem?_map, hr]; rfl), (h.ok r (List.mem_of_getElem? hr)).later hb⟩⟩
theorem GI.held {F : List (List Nat)} {m : Nat} {hb : Bool} {bss : List (List Nat)} {h : List Nat} (g : GI F m hb bss h) (hF : ∀ f ∈ F, f.length ≤ 1000) (hb8 : ∀ f ∈ F, ∀ x ∈ f, x < 256) : h.length ≤ 1000 ∧ ∀ x ∈ h, x < 256 := by
  cases hb with
  | false => rw [g.off rfl]; simp
  | true =>
    obtain ⟨_, h2⟩ := g.on rfl
    cases bss with
    | nil => exact absurd rfl h2
    | cons b r =>
      have hm : (h ++ b) ∈ F := List.mem_of_mem_drop (i := m) (by rw [g.full]; exact List.mem_cons_self ..)
      have h3 := hF _ hm
      rw [List.length_append] at h3
      exact ⟨by omega, fun x hx => hb8 _ hm x (List.mem_append_left _ hx)⟩
theorem CStep.good {hb hb' : Bool} {bss bss' : List (List Nat)} {x : Pc} (hs : CStep hb bss x hb' bss') (hr : ∀ r ∈ x.L, 0 < r.bs.length) : okG (x.fi.toNat : Int) (lens x.L) = true ∧ x.fi = (x.fi.toNat : Int) ∧ x.fi.toNat ≤ 3 := by
  obtain ⟨n, hkn, hk, htx, hfi, h24, hr2⟩ := hs
  have hf : 0 ≤ x.fi ∧ x.fi ≤ 3 := by
    rw [hfi]
    cases hb <;> (by_cases hn : n ≤ 0 <;> simp [hn])
  have hl : 0 < x.L.length := by
    rw [← length_texts, htx]
    unfold fieldsT
    rcases Int.lt_or_le 0 n with hn | hn
    · rw [if_neg (by omega)]
      simp
    · rw [if_pos hn, List.append_nil, List.length_take]
      omega
  refine ⟨?_, by omega, by omega⟩
  unfold okG
  simp only [Bool.and_eq_true, decide_eq_true_eq, Bool.not_eq_true', decide_eq_false_iff_not, length_lens]
  refine ⟨⟨⟨⟨by omega, by omega⟩, hl⟩, h24⟩, fun h0 => ?_⟩
  unfold lens at h0
  rw [List.mem_map] at h0
  obtain ⟨r, hr1, e⟩ := h0
  have := hr r hr1
  omega
/-- behind some pieces -/
structure JS (w1 : World) (p2 : Nat) (F : List (List Nat)) (P : List Pc) (i n : Nat) (hv : Value) (hb : Bool) (bss : List (List Nat)) (h : List Nat) (w : World) : Prop where
  rep : GRep p2 w p2 hv ⟨h, 0⟩
  below : Below p2 w1 w
  base : p2 = w1.heap.size
  ch : Chain hb bss (P.drop i) false []
  gi : GI F n hb bss h
theorem JS.later {w1 w v : World} {p2 : Nat} {F : List (List Nat)} {P : List Pc} {i n : Nat} {hv : Value} {hb : Bool} {bss : List (List Nat)} {h : List Nat} (g : JS w1 p2 F P i n hv hb bss h w) (hb : Below w.heap.size w v) : JS w1 p2 F P i n hv ‹Bool› bss h v :=
  ⟨g.rep.later hb, g.below.trans (hb.mono (by rw [g.base]; have := g.below.size; exact (by
    have h1 := g.rep.1.inside
    omega))), g.base, g.ch, g.gi⟩
/-- a piece is put -/
theorem JS.put {w1 w : World} {p2 : Nat} {F : List (List Nat)} {OA : Option Addr} {P : List Pc} {i n : Nat} {hv : Value} {hb : Bool} {bss : List (List Nat)} {h : List Nat} {x : Pc} (g : JS w1 p2 F P i n hv hb bss h w) (hm : PM w1 OA P) (hF : ∀ f ∈ F, f.length ≤ 1000) (hF8 : ∀ f ∈ F, ∀ x ∈ f, x < 256) (hx : P[i]? = some x) :
    Calls Try.prog 62 #[.pointer (some ⟨p2, 0, none⟩), .int .i64 x.fi, .slice x.A x.L.length x.L.length, .bool false] w fun e w' => ∃ hv' hb' bss' h' L2 A2, e = .returned (.tuple #[.slice A2 x.k x.k, .int .i64 0]) ∧ L2.length = x.k ∧ texts L2 = (F.drop n).take x.k ∧ n + x.k ≤ F.length ∧ RSrc w' A2 L2 ∧ JS w1 p2 F P (i + 1) (n + x.k) hv' hb' bss' h' w' := by
  have hch := g.ch
  have hd : P.drop i = x :: P.drop (i + 1) := drop_at hx
  rw [hd] at hch
  obtain ⟨hb', bss', hs, hc2⟩ := hch
  obtain ⟨hrs, hrl⟩ := hm.rows x (List.mem_of_getElem? hx)
  obtain ⟨ok1, ok2, ok3⟩ := hs.good (fun r hr => (hrl r hr).1)
  obtain ⟨hh1, hh2⟩ := g.gi.held hF hF8
  obtain ⟨h', hp1, hp2⟩ := g.gi.put hs hF
  have hsz : p2 ≤ w.heap.size := by have := g.rep.1.inside; omega
  have hput := gput_ok (p := p2) (B := p2) (s := ⟨h, 0⟩) x.fi.toNat x.L.length x.L.length false g.rep rfl hsz (fun V hV => hrs.later ((g.below.trans (hV.below hsz (fun k hk hx => by have := g.rep.block_ge (Nat.le_refl _) k hx; omega))).mono (Nat.le_of_eq g.base.symm))) ok1 (fun _ r hr => (hrl r (List.mem_of_getElem? hr)).2) (by show 0 ≤ 10000; omega) hh1 hh2
  rw [← ok2, hp1] at hput
  refine hput.mono ?_
  rintro e w' ⟨hv', L2, A2, rfl, k1, k2, k3, k4, k5, _⟩
  have hle := hp2.le
  have hl2 : L2.length = x.k := by
    have := congrArg List.length k1
    rw [length_texts, List.length_take, List.length_drop] at this
    omega
  refine ⟨hv', hb', bss', h', L2, A2, by rw [hl2], hl2, k1, hle, k3, k2, g.below.trans (k4.below hsz (fun k hk hx => by have := g.rep.block_ge (Nat.le_refl _) k hx; omega)), g.base, hc2, hp2⟩
end Go.Proofs.Ytjobgnemklpiaaa
