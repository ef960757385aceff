/-
  mux: a part more behind parts, in whatever order it is drawn. mux: how many bytes a block has. A law's row follows from its walk: the call returns true, and below the heap's old size the world is as it was; then every argument reads as it did. How the packets and bytes that a statement draws read. How parts that a statement draws read.
-/
import Derived.Test.YtdaipfmckonfpaaJMuxSizes05
import Derived.Deep.DeepCutAuto
import Derived.Test.YtdaipfmckonfpaaRows
import Derived.WalkKit
import Derived.ProofKit
import Derived.OpenShut
import Derived.Test.YtdaipfmckonfpaaJMuxSizes02
import Derived.SizedLaws
import Derived.Deep.Matrix
import Derived.Lib.SmallJoins
import Derived.Test.YtdaipfmckonfpaaJMuxSizes01
import Derived.Deep.Slices
import Derived.Deep.SlicePairs
namespace Go.Proofs.Ytdaipfmckonfpaa
open Go.RowKit

theorem parts_one (L : List PartM) : ∀ v ∈ pcells L, v.oneCell' = true := by
  intro v hv
  simp only [pcells, List.mem_flatMap] at hv
  obtain ⟨m, _, hm⟩ := hv
  simp at hm
  rcases hm with rfl | rfl <;> rfl
theorem length_pcells (L : List PartM) : (pcells L).length = L.length * 2 := by
  induction L with
  | nil => rfl
  | cons a L ih => rw [show a :: L = [a] ++ L from rfl]; simp [pcells] at ih ⊢; omega
theorem xsrc_cells {W : World} {b o : Nat} {L : List PartM} (h : ∀ (k : Nat) (m : PartM), L[k]? = some m → W.cell? ⟨b, o + k * 2, none⟩ = some (.int .i64 m.id) ∧ W.cell? ⟨b, o + k * 2 + 1, none⟩ = some m.r.v ∧ m.r.ok W) :
    ∀ j u, (pcells L)[j]? = some u → W.cell? ((⟨b, o, none⟩ : Addr).add j) = some u := by
  intro j u hu
  have hj : j < L.length * 2 := by rw [← length_pcells]; exact (List.getElem?_eq_some_iff.1 hu).1
  obtain ⟨m, hm⟩ : ∃ m, L[j / 2]? = some m := ⟨_, List.getElem?_eq_getElem (by omega)⟩
  obtain ⟨c1, c2⟩ := pcells_at hm
  obtain ⟨h1, h2, _⟩ := h _ m hm
  have hadd : (⟨b, o, none⟩ : Addr).add j = ⟨b, o + j, none⟩ := by
    unfold Addr.add
    split
    · rename_i h; rw [h]; rfl
    · rfl
  rw [hadd]
  rcases Nat.mod_two_eq_zero_or_one j with h0 | h0
  · have e : j = j / 2 * 2 := by omega
    rw [← e] at c1 h1
    rw [hu] at c1
    injection c1 with c1
    rw [c1]
    exact h1
  · have e : j = j / 2 * 2 + 1 := by omega
    rw [Nat.add_assoc, ← e] at h2
    rw [← e] at c2
    rw [hu] at c2
    injection c2 with c2
    rw [c2]
    exact h2
set_option maxRecDepth 100000 in
theorem app_parts {B : Nat} {W : World} {Av A : Option Addr} {cv j : Nat} {M L : List PartM} (n c : Nat) (hv : W.ownsRow B 57 2 (.slice Av j cv) j (pcells M)) (hB : B ≤ W.heap.size) (hs : XSrc W A L) (hn : L.length = n) (hm : j + n ≤ 100000) :
    ∃ A' c' W', (Builtin.append_ #[40, 40] 40 #[.slice Av j cv, .slice A n c]).run Try.prog W = .ok (.slice A' (j + n) c') W' ∧ W'.ownsRow B 57 2 (.slice A' (j + n) c') (j + n) (pcells (M ++ L)) ∧ Below B W W' ∧ Only (fun k => (Value.slice Av j cv).ownBlock = some k) W W' := by
  obtain ⟨i0, hi, hi0, hi1, hi2⟩ := info_parts Try.infoparts
  subst hn
  have key : ∃ v' W', (Builtin.append_ #[40, 40] 40 #[.slice Av j cv, .slice A L.length c]).run Try.prog W = .ok v' W' ∧ W'.ownsRow B 57 2 v' (j + L.length) (pcells M ++ pcells L) ∧ W.grownBy W' (Value.slice Av j cv).ownBlock := by
    by_cases h0 : 0 < L.length
    · obtain ⟨b, o, rfl, hc⟩ := hs h0
      obtain ⟨v', w', hrun, h2, h3, _, h5⟩ := run_append_own_at (P := Try.prog) W B 40 40 57 i0 _ 2 32 Try.underparts hi hi0 hi1 hi2 rfl (by omega) _ j (pcells M) hv ⟨b, o, none⟩ L.length c (pcells L) (length_pcells L) (xsrc_cells hc) (parts_one L) (by unfold maxLen; omega) (by omega) hB
      exact ⟨v', w', hrun, h2, h3⟩
    · obtain rfl : L = [] := List.eq_nil_of_length_eq_zero (by omega)
      cases A with
      | some ad =>
        obtain ⟨v', w', hrun, h2, h3, _, h5⟩ := run_append_own_at (P := Try.prog) W B 40 40 57 i0 _ 2 32 Try.underparts hi hi0 hi1 hi2 rfl (by omega) _ j (pcells M) hv ad 0 c [] rfl (fun j u hu => by simp at hu) (fun u hu => by simp at hu) (by unfold maxLen; omega) (by omega) hB
        exact ⟨v', w', hrun, h2, h3⟩
      | none =>
        refine ⟨.slice Av j cv, W, ?_, by simpa [pcells] using hv, World.grownBy.refl _ _⟩
        rcases hv.2 with ⟨h1, h2⟩ | ⟨g, cap, cur, h1, _, _, hnc, _⟩
        · injection h1 with e1 e2 e3
          subst e1 e2 e3
          simp [Builtin.append_, run_underlying Try.underparts, sizeOf, typeInfo, hi, Builtin.lenOf, Builtin.firstCells]
        · injection h1 with e1 e2 e3
          subst e1 e3
          simp [Builtin.append_, run_underlying Try.underparts, sizeOf, typeInfo, hi, Builtin.lenOf, Builtin.firstCells, hnc, storeCells]
  obtain ⟨v', W', h1, h2, h3⟩ := key
  have hon := (Only.refl (fun k => (Value.slice Av j cv).ownBlock = some k) W).grown h3 (fun k hk => .inl hk)
  obtain ⟨A', c', rfl, _⟩ := own_shp h2
  refine ⟨A', c', W', h1, ?_, own_only_below2 hv hon hB, hon⟩
  rw [show pcells (M ++ L) = pcells M ++ pcells L by simp [pcells]]
  exact h2
theorem xsrc_box {W : World} {g : Nat} {id : Int} {r : RowB} (h : Row W g 57 #[.int .i64 id, r.v]) (hr : r.ok W) : XSrc W (some ⟨g, 0, none⟩) [⟨id, r⟩] := by
  intro _
  refine ⟨g, 0, rfl, fun k m hm => ?_⟩
  match k, hm with
  | 0, hm =>
    simp at hm
    subst hm
    exact ⟨h.read (i := 0) rfl, h.read (i := 1) rfl, hr⟩
  | k + 1, hm => simp at hm
theorem own_empty {W : World} {B g : Nat} (h : Row W g 57 #[]) (hB : B ≤ g) : W.ownsRow B 57 2 (.slice (some ⟨g, 0, none⟩) 0 0) 0 (pcells []) :=
  ⟨rfl, .inr ⟨g, 0, #[], rfl, hB, h, Nat.le_refl _, by simp [maxLen], rfl, rfl⟩⟩
/-- what two appends leave, from world V on -/
def Two (V X : World) (x A : Value) (L : List PartM) (p : PartM) (n : Nat) (mid : World → World) (z : World → Value) : Prop :=
  ∃ A1 c1 w1, (Builtin.append_ #[40, 40] 40 #[x, A]).run Try.prog X = .ok (.slice A1 n c1) w1 ∧ ∃ A2 c2 w2, (Builtin.append_ #[40, 40] 40 #[.slice A1 n c1, z w1]).run Try.prog (mid w1) = .ok (.slice A2 (n + 1) c2) w2 ∧ XSrc w2 A2 (L ++ [p]) ∧ Below V.heap.size V w1 ∧ Below V.heap.size V w2
set_option maxRecDepth 100000 in
theorem msix {V : World} {A : Option Addr} {L : List PartM} {p : PartM} (n cap : Nat) (hs : XSrc V A L) (hL : L.length = n) (hn : n ≤ 1000) (hp : p.r.ok V) :
    Two V ((V.drew.alloc (.cells #[] 57)).alloc (.cells #[.int .i64 p.id, p.r.v] 57)) (.slice (some ⟨V.heap.size, 0, none⟩) 0 0) (.slice A n cap) L p n id (fun _ => .slice (some ⟨V.heap.size + 1, 0, none⟩) 1 1) ∧
    Two V ((V.drew.alloc (.cells #[.int .i64 p.id, p.r.v] 57)).alloc (.cells #[] 57)) (.slice (some ⟨V.heap.size + 1, 0, none⟩) 0 0) (.slice A n cap) L p n id (fun _ => .slice (some ⟨V.heap.size, 0, none⟩) 1 1) ∧
    Two V (V.drew.alloc (.cells #[] 57)) (.slice (some ⟨V.heap.size, 0, none⟩) 0 0) (.slice A n cap) L p n (fun w1 => w1.alloc (.cells #[.int .i64 p.id, p.r.v] 57)) (fun w1 => .slice (some ⟨w1.heap.size, 0, none⟩) 1 1) := by
  have hX0 : Below V.heap.size V V.drew := bl_drew (Below.refl _ _)
  have hok : ∀ (W : World), Below V.heap.size V W → ∀ m ∈ L ++ [p], m.r.ok W := fun W hb m hm => by
    rcases List.mem_append.1 hm with hm | hm
    · exact (hs.ok m hm).later hb
    · simp at hm; subst hm; exact hp.later hb
  -- the second append, where the box lies in a row
  have second : ∀ (W w1 : World) (x : Value) (A1 : Option Addr) (c1 gb : Nat), Below V.heap.size V w1 → w1.ownsRow V.heap.size 57 2 (.slice A1 n c1) n (pcells L) → Row w1 gb 57 #[.int .i64 p.id, p.r.v] →
      ∃ A2 c2 w2, (Builtin.append_ #[40, 40] 40 #[.slice A1 n c1, .slice (some ⟨gb, 0, none⟩) 1 1]).run Try.prog w1 = .ok (.slice A2 (n + 1) c2) w2 ∧ XSrc w2 A2 (L ++ [p]) ∧ Below V.heap.size V w2 := by
    intro W w1 x A1 c1 gb hb ho hrow
    obtain ⟨A2, c2, w2, r2, o2, b2, _⟩ := app_parts (L := [p]) 1 1 ho hb.size (xsrc_box hrow (hp.later hb)) rfl (by omega)
    exact ⟨A2, c2, w2, r2, own_xsrc o2 (hok w2 (hb.trans b2)), hb.trans b2⟩
  refine ⟨?_, ?_, ?_⟩
  · have hX1 := bl_alloc hX0 (.cells #[] 57)
    have hX2 := bl_alloc hX1 (.cells #[.int .i64 p.id, p.r.v] 57)
    have hE := (Row.made V.drew 57 #[]).more (.cells #[.int .i64 p.id, p.r.v] 57)
    have hBx := Row.made (V.drew.alloc (.cells #[] 57)) 57 #[.int .i64 p.id, p.r.v]
    rw [show (V.drew.alloc (.cells #[] 57)).heap.size = V.heap.size + 1 from Array.size_push ..] at hBx
    obtain ⟨A1, c1, w1, r1, o1, b1, on1⟩ := app_parts (L := L) (M := []) n cap (own_empty hE (Nat.le_refl _)) hX2.size (hs.later hX2) hL (by omega)
    rw [Nat.zero_add] at r1 o1
    have hb1 := hX2.trans b1
    have hBx1 := hBx.only on1 (fun h => absurd (Option.some.inj h : V.heap.size = V.heap.size + 1) (by omega))
    obtain ⟨A2, c2, w2, r2, x2, b2⟩ := second w1 w1 (.bool true) A1 c1 _ hb1 o1 hBx1
    exact ⟨A1, c1, w1, r1, A2, c2, w2, r2, x2, hb1, b2⟩
  · have hX1 := bl_alloc hX0 (.cells #[.int .i64 p.id, p.r.v] 57)
    have hX2 := bl_alloc hX1 (.cells #[] 57)
    have hBx := (Row.made V.drew 57 #[.int .i64 p.id, p.r.v]).more (.cells #[] 57)
    have hE := Row.made (V.drew.alloc (.cells #[.int .i64 p.id, p.r.v] 57)) 57 #[]
    rw [show (V.drew.alloc (.cells #[.int .i64 p.id, p.r.v] 57)).heap.size = V.heap.size + 1 from Array.size_push ..] at hE
    obtain ⟨A1, c1, w1, r1, o1, b1, on1⟩ := app_parts (L := L) (M := []) n cap (own_empty hE (Nat.le_succ _)) hX2.size (hs.later hX2) hL (by omega)
    rw [Nat.zero_add] at r1 o1
    have hb1 := hX2.trans b1
    have hBx1 := hBx.only on1 (fun h => absurd (Option.some.inj h : V.heap.size + 1 = V.heap.size) (by omega))
    obtain ⟨A2, c2, w2, r2, x2, b2⟩ := second w1 w1 (.bool true) A1 c1 _ hb1 o1 hBx1
    exact ⟨A1, c1, w1, r1, A2, c2, w2, r2, x2, hb1, b2⟩
  · have hX1 := bl_alloc hX0 (.cells #[] 57)
    have hE := Row.made V.drew 57 #[]
    obtain ⟨A1, c1, w1, r1, o1, b1, on1⟩ := app_parts (L := L) (M := []) n cap (own_empty hE (Nat.le_refl _)) hX1.size (hs.later hX1) hL (by omega)
    rw [Nat.zero_add] at r1 o1
    have hb1 := hX1.trans b1
    have hBx1 := Row.made w1 57 #[.int .i64 p.id, p.r.v]
    obtain ⟨A2, c2, w2, r2, x2, b2⟩ := second w1 (w1.alloc (.cells #[.int .i64 p.id, p.r.v] 57)) (.bool true) A1 c1 _ (hb1.alloc hb1.size _) (own_later2 o1 (bl_alloc (Below.refl _ _) _)) hBx1
    exact ⟨A1, c1, w1, r1, A2, c2, w2, r2, x2, hb1, b2⟩
theorem plens_snoc (L : List PartM) (p : PartM) : psum (plens (L ++ [p])) = psum (plens L) + (2 + p.r.bs.length) := by
  rw [show plens (L ++ [p]) = plens L ++ [p.r.bs.length] by simp [plens], psum_snoc]
theorem size_snoc {L : List PartM} (p : PartM) (hf : faultM L = 0) :
    sizeM (L ++ [p]) = if (1 ≤ p.id ∧ p.id ≤ 31 ∧ 1 ≤ p.r.bs.length ∧ p.r.bs.length ≤ 2047) ∧ L.length < 16 ∧ psum (plens L) + 2 + 2 + p.r.bs.length ≤ 4096 then psum (plens L) + 2 + 2 + p.r.bs.length else 0 := by
  obtain ⟨h1, h2, h3⟩ := good_part hf
  by_cases h : (1 ≤ p.id ∧ p.id ≤ 31 ∧ 1 ≤ p.r.bs.length ∧ p.r.bs.length ≤ 2047) ∧ L.length < 16 ∧ psum (plens L) + 2 + 2 + p.r.bs.length ≤ 4096
  · rw [if_pos h]
    have h9 : faultM (L ++ [p]) = 0 := fault_ok (by simp; omega) (by rw [plens_snoc]; omega) (fun m hm => by
      rcases List.mem_append.1 hm with hm | hm
      · exact h3 m hm
      · simp at hm; subst hm; exact h.1)
    unfold sizeM
    rw [if_pos h9, plens_snoc]
    omega
  · rw [if_neg h]
    unfold sizeM
    by_cases h9 : faultM (L ++ [p]) = 0
    · exfalso
      obtain ⟨k1, k2, k3⟩ := good_part h9
      refine h ⟨k3 p (by simp), by simp at k1; omega, ?_⟩
      rw [plens_snoc] at k2
      omega
    · rw [if_neg h9]
end Go.Proofs.Ytdaipfmckonfpaa
namespace Go.Proofs.Ytdaipfmckonfpaa
open Go.RowKit

set_option maxRecDepth 100000 in
set_option maxHeartbeats 1600000 in
theorem msizes_out {A PA : Option Addr} {L : List PartM} (n cap pn pc : Nat) (pid : Int) (w : World) (hL : L.length = n) (hn9 : n ≤ 9223372036854775807) (hp9 : pn ≤ 9223372036854775807) (hs : XSrc w A L) (h : greatM L = true ∨ (greatM L = false ∧ 2100 < pn)) :
    Calls Try.prog 9 #[.slice A n cap, .agg #[.int .i64 pid, .slice PA pn pc]] w fun e w' => e = .returned (.bool true) ∧ Below w.heap.size w w' := by
  have HB0 := Lib.hid (bl_alloc (Below.refl w.heap.size w) (.cells #[.int .i64 pid, .slice PA pn pc] 57))
  have HG := Lib.hid (mgreat_any n cap _ hL hn9 (hs.later HB0.out))
  have HA := Lib.hid malive_any
  clear hs hL
  rcases h with hg | ⟨hg, hp⟩
  · rw [hg] at HG
    go_enter Try.func9, Try.ntmps9
    go_wp2_with (first
      | (go_at_call 23; (with_reducible refine HG.out.mono ?_); rintro e w1 ⟨rfl, rfl⟩)
      | (go_at_call 24; (with_reducible refine (HA.out _).mono ?_); rintro e w2 ⟨rfl, hb2⟩))
    go_ret
    exact ⟨rfl, bl_step HB0.out hb2⟩
  · rw [hg] at HG
    have hpI : (2100 : Int) < pn := by omega
    go_enter Try.func9, Try.ntmps9
    go_wp2_with (first
      | (go_at_call 23; (with_reducible refine HG.out.mono ?_); rintro e w1 ⟨rfl, rfl⟩)
      | (go_at_call 24; (with_reducible refine (HA.out _).mono ?_); rintro e w2 ⟨rfl, hb2⟩))
    go_ret
    exact ⟨rfl, bl_step HB0.out hb2⟩
set_option maxRecDepth 100000 in
set_option maxHeartbeats 1600000 in
theorem msizes_none {A PA : Option Addr} {L : List PartM} (n cap pn pc : Nat) (pid : Int) (w : World) (hL : L.length = n) (hp : pn ≤ 2100) (hs : XSrc w A L) (hg : greatM L = false) (hf : sizeM L = 0) :
    Calls Try.prog 9 #[.slice A n cap, .agg #[.int .i64 pid, .slice PA pn pc]] w fun e w' => e = .returned (.bool true) ∧ Below w.heap.size w w' := by
  obtain ⟨q1, q2, q3⟩ := great_no hg
  have HB0 := Lib.hid (bl_alloc (Below.refl w.heap.size w) (.cells #[.int .i64 pid, .slice PA pn pc] 57))
  have HG := Lib.hid (mgreat_any n cap _ hL (by omega) (hs.later HB0.out))
  rw [hg] at HG
  have HA := Lib.hid malive_any
  have HZ := Lib.hid (mSize_any n cap _ hL (by omega) (hs.later HB0.out) (fun m hm => by have := q2 m hm; omega))
  rw [hf] at HZ
  have hpI : ¬ (2100 : Int) < pn := by omega
  clear hs hL q1 q2 q3 hg hf
  go_enter Try.func9, Try.ntmps9
  go_wp2_with (first
    | (go_at_call 23; (with_reducible refine HG.out.mono ?_); rintro e w1 ⟨rfl, rfl⟩)
    | (go_at_call 28; (with_reducible refine HZ.out.mono ?_); rintro e w1 ⟨rfl, hb1⟩)
    | (go_at_call 24; (with_reducible refine (HA.out _).mono ?_); rintro e w2 ⟨rfl, hb2⟩))
  go_ret
  exact ⟨rfl, bl_step (bl_step HB0.out hb1) hb2⟩
theorem box_in {V W : World} {g : Nat} {a b : Value} (h : Row V g 57 #[a, b]) (hb : Below V.heap.size V W) : W.cell? ⟨g, 0, none⟩ = some a ∧ W.cell? ⟨g, 1, none⟩ = some b :=
  ⟨(h.later hb).read rfl, (h.later hb).read rfl⟩
set_option maxRecDepth 100000 in
set_option maxHeartbeats 6400000 in
theorem msizes_in {A PA : Option Addr} {L : List PartM} {pb : List Nat} (n cap pn pc : Nat) (pid : Int) (w : World) (hL : L.length = n) (hp : pn ≤ 2100) (hs : XSrc w A L) (hg : greatM L = false) (hf : faultM L = 0) (hpn : pb.length = pn) (hpr : RowB.ok w ⟨PA, pc, pb⟩) :
    Calls Try.prog 9 #[.slice A n cap, .agg #[.int .i64 pid, .slice PA pn pc]] w fun e w' => e = .returned (.bool true) ∧ Below w.heap.size w w' := by
  obtain ⟨q1, q2, q3⟩ := great_no hg
  obtain ⟨g1, g2, g3⟩ := good_part hf
  have HB0 := Lib.hid (bl_alloc (Below.refl w.heap.size w) (.cells #[.int .i64 pid, .slice PA pn pc] 57))
  have HR0 := Lib.hid (Row.made w 57 #[.int .i64 pid, .slice PA pn pc])
  have HG := Lib.hid (mgreat_any n cap _ hL (by omega) (hs.later HB0.out))
  rw [hg] at HG
  have HA := Lib.hid malive_any
  have HZ := Lib.hid (mSize_any n cap _ hL (by omega) (hs.later HB0.out) (fun m hm => by have := q2 m hm; omega))
  have hsz : sizeM L = psum (plens L) + 2 := by unfold sizeM; rw [if_pos hf]; omega
  have hsn := size_snoc (L := L) ⟨pid, ⟨PA, pc, pb⟩⟩ hf
  simp only [hpn] at hsn
  rw [hsz] at HZ
  have hpI : ¬ (2100 : Int) < pn := by omega
  have HS := Lib.hid hs
  have HL := Lib.hid hL
  have HPR := Lib.hid hpr
  have HPN := Lib.hid hpn
  have HQ2 := Lib.hid (fun m (hm : m ∈ L ++ [(⟨pid, ⟨PA, pc, pb⟩⟩ : PartM)]) => show m.r.bs.length ≤ 100000 by
    rcases List.mem_append.1 hm with hm | hm
    · have := q2 m hm; omega
    · simp at hm; subst hm; show pb.length ≤ 100000; omega)
  have HTK := Lib.hid (fun k => psum_take_le L k)
  have HN2 := Lib.hid (show psum (plens L) = psum (plens (L.take n)) by rw [List.take_of_length_le (by omega)])
  have hn16 : n ≤ 16 := by omega
  generalize hNN : psum (plens L) = N at *
  rw [hL] at hsn
  generalize hSS : sizeM (L ++ [(⟨pid, ⟨PA, pc, pb⟩⟩ : PartM)]) = S at *
  have HSS := Lib.hid hSS
  have HSN := Lib.hid hsn
  have hN0 : ((N + 2 : Nat) : Int) ≠ 0 := by omega
  have hN0' : (((N + 2 : Nat) : Int) == 0) = false := by rw [beq_eq_false_iff_ne]; omega
  clear hs hL q1 q2 q3 hg hf hsz hsn hpr hpn hNN hSS g1 g3
  go_enter Try.func9, Try.ntmps9
  go_wp2_with (first
    | (go_at_call 23; (with_reducible refine HG.out.mono ?_); rintro e w1 ⟨rfl, rfl⟩)
    | (go_at_call 28; (with_reducible refine HZ.out.mono ?_); rintro e w1 ⟨rfl, hb1⟩; (have HB1 := Lib.hid (bl_step HB0.out hb1); have HR1 := Lib.hid (HR0.out.later hb1); clear hb1)))
  clear HG HZ
  go_loopw [6, 7] (fun s i wr => ∃ k t : Nat, k ≤ n ∧ i = .int .i64 k ∧ s = .int .i64 t ∧ t ≤ 4096 ∧ Hid (t = 2 + psum (plens (L.take k))) ∧ w1 = wr) (fun _ i _ => n - (intOf i).toNat)
  case atStart => exact ⟨0, 2, by omega, rfl, rfl, by omega, Lib.hid rfl, rfl⟩
  case round =>
    obtain ⟨k, t, hk, rfl, rfl, ht, HT, rfl⟩ := hrel
    by_cases hlt : k < n
    · obtain ⟨ab, ao, rfl, hc⟩ := HS.out (by rw [HL.out]; omega)
      obtain ⟨⟨id, ⟨RA, rcap, bs⟩⟩, hr⟩ : ∃ r, L[k]? = some r := ⟨_, List.getElem?_eq_getElem (by rw [HL.out]; exact hlt)⟩
      obtain ⟨e0, e1, e2⟩ := hc k _ hr
      have f1 := cell_below HB1.out e1
      simp only [RowB.v] at f1
      have HTT := Lib.hid (plens_take hr)
      simp only at HTT
      have h9 := HTK.out (k + 1)
      rw [HTT.out, psum_snoc] at h9
      have h8 := HT.out
      have h7 : t + (2 + bs.length) ≤ 4096 := by omega
      have hkI : (k : Int) < (n : Int) := by omega
      have hk0 : (0 : Int) ≤ (k : Int) := by omega
      clear hc hr e0 e1 e2 h9 h8
      go_wp2
      go_roundw
      case rel => exact ⟨k + 1, t + (2 + bs.length), by omega, by go_num, by go_num, by omega, Lib.hid (by rw [HTT.out, psum_snoc, HT.out]; omega), trivial⟩
      case measure => simp [intOf]; omega
    · have hkn : k = n := by omega
      subst hkn
      obtain rfl : t = N + 2 := by have h := HT.out; rw [← HN2.out] at h; omega
      have hkI : ¬ (k : Int) < (k : Int) := by omega
      clear HT HTK HN2 hlt
      go_upto_region 11 with fail
      go_cut [8] (fun s8 wx => ∃ wy : World, wy = wx ∧ s8 = .int .i64 (S : Int) ∧ Hid (Below w.heap.size w wy) ∧ Hid (Row wy w.heap.size 57 #[.int .i64 pid, .slice PA pn pc]))
      case first =>
        obtain ⟨P1, P2, P3⟩ := msix (V := w1) (p := ⟨pid, ⟨PA, pc, pb⟩⟩) k cap (HS.out.later HB1.out) HL.out (by omega) (HPR.out.later HB1.out)
        have ev : RowB.v ⟨PA, pc, pb⟩ = .slice PA pn pc := by unfold RowB.v; rw [HPN.out]
        unfold Two at P1 P2 P3
        simp only [ev, id] at P1 P2 P3
        obtain ⟨A1, c1, x1, r1, A2, c2, x2, r2, hx2, b1, b2⟩ := P1
        obtain ⟨B1, d1, y1, q1, B2, d2, y2, q2, hy2, b3, b4⟩ := P2
        obtain ⟨D1, f1, u1, s1, D2, f2, u2, s2, hu2, b5, b6⟩ := P3
        have hLp : (L ++ [(⟨pid, ⟨PA, pc, pb⟩⟩ : PartM)]).length = k + 1 := by rw [List.length_append, HL.out]; rfl
        have HZ1 := Lib.hid (mSize_any (k + 1) c2 x2 hLp (by omega) hx2 HQ2.out)
        have HZ2 := Lib.hid (mSize_any (k + 1) d2 y2 hLp (by omega) hy2 HQ2.out)
        have HZ3 := Lib.hid (mSize_any (k + 1) f2 u2 hLp (by omega) hu2 HQ2.out)
        rw [HSS.out] at HZ1 HZ2 HZ3
        have hX0 : Below w1.heap.size w1 w1.drew := bl_drew (Below.refl _ _)
        have hX1 := bl_alloc hX0 (.cells #[] 57)
        have hX2 := bl_alloc hX1 (.cells #[.int .i64 pid, .slice PA pn pc] 57)
        have hX3 := bl_alloc hX0 (.cells #[.int .i64 pid, .slice PA pn pc] 57)
        have hX4 := bl_alloc hX3 (.cells #[] 57)
        have hX5 : Below w1.heap.size w1 (u1.alloc (.cells #[.int .i64 pid, .slice PA pn pc] 57)) := bl_alloc b5 _
        have z0 := box_in HR1.out (Below.refl _ _)
        have z1 := box_in HR1.out hX0
        have z2 := box_in HR1.out hX1
        have z3 := box_in HR1.out hX2
        have z4 := box_in HR1.out hX3
        have z5 := box_in HR1.out hX4
        have z6 := box_in HR1.out hX5
        have z7 := box_in HR1.out b1
        have z8 := box_in HR1.out b2
        have z9 := box_in HR1.out b3
        have z10 := box_in HR1.out b4
        have z11 := box_in HR1.out b5
        have z12 := box_in HR1.out b6
        have K1 := Lib.hid (fun (W : World) (hb : Below x2.heap.size x2 W) => And.intro (bl_step HB1.out (bl_step b2 hb)) (HR1.out.later (bl_step b2 hb)))
        have K2 := Lib.hid (fun (W : World) (hb : Below y2.heap.size y2 W) => And.intro (bl_step HB1.out (bl_step b4 hb)) (HR1.out.later (bl_step b4 hb)))
        have K3 := Lib.hid (fun (W : World) (hb : Below u2.heap.size u2 W) => And.intro (bl_step HB1.out (bl_step b6 hb)) (HR1.out.later (bl_step b6 hb)))
        clear hX0 hX1 hX2 hX3 hX4 hX5 b1 b2 b3 b4 b5 b6 hx2 hy2 hu2 hLp ev
        obtain ⟨zz0, zz1⟩ := z0
        have z0 := And.intro zz0 zz1
        go_region_held3 (fun w' => w'.cell? ⟨w.heap.size, 0, none⟩ = some (.int .i64 pid) ∧ w'.cell? ⟨w.heap.size, 1, none⟩ = some (.slice PA pn pc)) (first | assumption | go_keep) (first
          | (refine step_run (by rfl) (.tmp 39) (.tmp 40) 40 (by rfl) (.slice (some ⟨w1.heap.size, 0, none⟩) 0 0) (.slice A k cap) (by rfl) (by rfl) r1 ?_)
          | (refine step_run (by rfl) (.tmp 39) (.tmp 40) 40 (by rfl) (.slice (some ⟨w1.heap.size + 1, 0, none⟩) 0 0) (.slice A k cap) (by rfl) (by rfl) q1 ?_)
          | (refine step_run (by rfl) (.tmp 39) (.tmp 40) 40 (by rfl) (.slice (some ⟨w1.heap.size, 0, none⟩) 0 0) (.slice A k cap) (by rfl) (by rfl) s1 ?_)
          | (refine step_run (by rfl) (.tmp 41) (.tmp 43) 40 (by rfl) (.slice A1 k c1) (.slice (some ⟨w1.heap.size + 1, 0, none⟩) 1 1) (by rfl) (by rfl) r2 ?_)
          | (refine step_run (by rfl) (.tmp 41) (.tmp 43) 40 (by rfl) (.slice B1 k d1) (.slice (some ⟨w1.heap.size, 0, none⟩) 1 1) (by rfl) (by rfl) q2 ?_)
          | (refine step_run (by rfl) (.tmp 41) (.tmp 43) 40 (by rfl) (.slice D1 k f1) (.slice (some ⟨u1.heap.size, 0, none⟩) 1 1) (by rfl) (by rfl) s2 ?_)
          | (go_at_call 28; (with_reducible refine HZ1.out.mono ?_); rintro e w5 ⟨rfl, hb5⟩; (have k5 := Lib.hid (K1.out _ hb5); have k6 := box_in k5.out.2 (Below.refl _ _)))
          | (go_at_call 28; (with_reducible refine HZ2.out.mono ?_); rintro e w5 ⟨rfl, hb5⟩; (have k5 := Lib.hid (K2.out _ hb5); have k6 := box_in k5.out.2 (Below.refl _ _)))
          | (go_at_call 28; (with_reducible refine HZ3.out.mono ?_); rintro e w5 ⟨rfl, hb5⟩; (have k5 := Lib.hid (K3.out _ hb5); have k6 := box_in k5.out.2 (Below.refl _ _))))
        all_goals
          go_wp2_with fail
          go_meet
          exact ⟨_, rfl, rfl, Lib.hid k5.out.1, Lib.hid k5.out.2⟩
      case rest =>
        obtain ⟨wy, rfl, rfl, HB2, HR2⟩ := hcut
        have c0 := HR2.out.read (i := 0) rfl
        have c1 := HR2.out.read (i := 1) rfl
        have hsn := HSN.out
        clear HSN HSS HR1 HB1 HQ2 HPR HPN HS HL hkI
        have hnt : (((N + 2 : Nat) : Int) == ((N + 2 : Nat) : Int)) = true := by simp
        by_cases m1 : 1 ≤ pid
        · by_cases m2 : pid ≤ 31
          · by_cases m3 : 1 ≤ pn
            · have m3' : (1 : Int) ≤ (pn : Int) := by omega
              by_cases m4 : pn ≤ 2047
              · have m4' : (pn : Int) ≤ 2047 := by omega
                by_cases m5 : k < 16
                · have m5' : (k : Int) < 16 := by omega
                  by_cases m6 : N + 2 + 2 + pn ≤ 4096
                  · have m6' : ((N + 2 : Nat) : Int) + 2 + (pn : Int) ≤ 4096 := by omega
                    rw [if_pos ⟨⟨m1, m2, m3, m4⟩, m5, m6⟩] at hsn
                    have hsI : (S : Int) = ((N + 2 : Nat) : Int) + 2 + (pn : Int) := by omega
                    have hs0 : ((S : Int) != 0) = true := by simp; omega
                    have hsJ : ((S : Int) == (N : Int) + 2 + 2 + (pn : Int)) = true := by simp; omega
                    clear hsn hsI
                    go_wp2_with (go_at_call 24; (with_reducible refine (HA.out _).mono ?_); rintro e w9 ⟨rfl, hb9⟩; (have d1 := cell_below hb9 c1))
                    go_ret
                    exact ⟨rfl, bl_step HB2.out hb9⟩
                  · have m6' : ¬ ((N + 2 : Nat) : Int) + 2 + (pn : Int) ≤ 4096 := by omega
                    rw [if_neg (by omega)] at hsn
                    subst hsn
                    go_wp2_with (go_at_call 24; (with_reducible refine (HA.out _).mono ?_); rintro e w9 ⟨rfl, hb9⟩; (have d1 := cell_below hb9 c1))
                    go_ret
                    exact ⟨rfl, bl_step HB2.out hb9⟩
                · have m5' : ¬ (k : Int) < 16 := by omega
                  rw [if_neg (by omega)] at hsn
                  subst hsn
                  go_wp2_with (go_at_call 24; (with_reducible refine (HA.out _).mono ?_); rintro e w9 ⟨rfl, hb9⟩; (have d1 := cell_below hb9 c1))
                  go_ret
                  exact ⟨rfl, bl_step HB2.out hb9⟩
              · have m4' : ¬ (pn : Int) ≤ 2047 := by omega
                rw [if_neg (by omega)] at hsn
                subst hsn
                go_wp2_with (go_at_call 24; (with_reducible refine (HA.out _).mono ?_); rintro e w9 ⟨rfl, hb9⟩; (have d1 := cell_below hb9 c1))
                go_ret
                exact ⟨rfl, bl_step HB2.out hb9⟩
            · have m3' : ¬ (1 : Int) ≤ (pn : Int) := by omega
              rw [if_neg (by omega)] at hsn
              subst hsn
              go_wp2_with (go_at_call 24; (with_reducible refine (HA.out _).mono ?_); rintro e w9 ⟨rfl, hb9⟩; (have d1 := cell_below hb9 c1))
              go_ret
              exact ⟨rfl, bl_step HB2.out hb9⟩
          · rw [if_neg (by omega)] at hsn
            subst hsn
            go_wp2_with (go_at_call 24; (with_reducible refine (HA.out _).mono ?_); rintro e w9 ⟨rfl, hb9⟩; (have d1 := cell_below hb9 c1))
            go_ret
            exact ⟨rfl, bl_step HB2.out hb9⟩
        · rw [if_neg (by omega)] at hsn
          subst hsn
          go_wp2_with (go_at_call 24; (with_reducible refine (HA.out _).mono ?_); rintro e w9 ⟨rfl, hb9⟩; (have d1 := cell_below hb9 c1))
          go_ret
          exact ⟨rfl, bl_step HB2.out hb9⟩
theorem msizes_every {A : Option Addr} {L : List PartM} {n : Nat} (cap : Nat) (x : PartM) (w : World) (hL : L.length = n) (hn9 : n ≤ 9223372036854775807) (hs : XSrc w A L) (hx : x.r.ok w) :
    Calls Try.prog 9 #[.slice A n cap, x.v] w fun e w' => e = .returned (.bool true) ∧ Below w.heap.size w w' := by
  obtain ⟨id, ⟨PA, pc, pb⟩⟩ := x
  have hp9 : pb.length ≤ 9223372036854775807 := Nat.le_trans hx.2.1 hx.2.2.1
  cases hg : greatM L
  · by_cases hp : pb.length ≤ 2100
    · by_cases hf : faultM L = 0
      · exact msizes_in n cap pb.length pc id w hL hp hs hg hf rfl hx
      · exact msizes_none n cap pb.length pc id w hL hp hs hg (by unfold sizeM; rw [if_neg hf])
    · exact msizes_out n cap pb.length pc id w hL hn9 hp9 hs (.inr ⟨hg, by omega⟩)
  · exact msizes_out n cap pb.length pc id w hL hn9 hp9 hs (.inl hg)
end Go.Proofs.Ytdaipfmckonfpaa
namespace Go.Proofs.Ytdaipfmckonfpaa
open Go.ChangeShapes Go.WideShapes Go.ChangeAt Go.RowKit

theorem lawOwn : ownKnob Try.prog.godebug = none := by kernel_rfl
theorem lawLaid : laidOutB Try.prog = true := by kernel_rfl

section
variable {H : Type} {enc : TypeId × Value → H} {P : Program}
/-- what was read in the old world is read in the new one -/
theorem args_stay (hl : laidOutB P = true) {W W' : World} (hb : Below W.heap.size W W') : ∀ (ts : List TypeId) (vs : List Value) (ds : List (DataW H)) (ps : List MemPlace),
    (∀ t ∈ ts, P.readableRec t = true ∧ t < P.types.size) → DataW.TrodAll enc P W 0 (fun _ => true) true ts vs ds ps → (∀ x ∈ ps, x.block < W.heap.size) →
    DataW.TrodAll enc P W' 0 (fun b => decide (b < W.heap.size)) true ts vs ds ps := by
  intro ts
  induction ts with
  | nil =>
    intro vs ds ps _ h _
    obtain ⟨rfl, rfl, rfl⟩ := trodAll_nil h
    exact trodAll_mk0
  | cons t ts ih =>
    intro vs ds ps hr h hlt
    obtain ⟨v, vs', d, ds', p, q, rfl, rfl, rfl, h1, h2⟩ := trodAll_cons h
    have ht := hr t (List.mem_cons_self ..)
    exact trodAll_cons_mk (Below.trod hl ht.1 ht.2 h1 hb fun x hx => hlt x (List.mem_append_left _ hx))
      (ih vs' ds' q (fun u hu => hr u (List.mem_cons_of_mem _ hu)) h2 fun x hx => hlt x (List.mem_append_right _ hx))

theorem law_post {f : Func} {s : ChangeSpec} {W W' : World} {args : Array Value} {ds gs : List (DataW H)} {before : List MemPlace} {B : TypeId}
    (hl : laidOutB P = true) (hr : f.params.toList.all (fun t => P.readableRec t && decide (t < P.types.size)) = true) (hv : s.vars = [])
    (hW : DataW.Whole enc P f.params.toList s.vars false W args.toList ds gs before)
    (hs : s.fn H (ds ++ gs) = { results := [.lit (.bool true)], args := ds }) (ht : f.resultTypes = #[B]) (hB : P.underlying B = some .bool)
    (hb : Below W.heap.size W W') : s.post enc P f false true false false W args (.bool true) W' := by
  have hW' := hW
  obtain ⟨p, q, hA, hV, rfl, _, _⟩ := hW
  rw [hv] at hV
  obtain ⟨rfl, rfl⟩ := trodVars_none hV
  refine ⟨ds, [], p ++ [], [], p, [], hW', ?_, ?_, ?_, hb.frame _, fun h => by cases h⟩
  · rw [hs, ht]
    exact trodAll_mk1 (shut_bool hB true)
  · rw [hs]
    exact args_stay hl hb _ _ _ _ (fun t h => by have := List.all_eq_true.1 hr t h; simpa using this) hA fun x hx => hW'.lt x (List.mem_append_left _ hx)
  · rw [hs, hv]
    exact rfl
end
end Go.Proofs.Ytdaipfmckonfpaa
namespace Go.Proofs.Ytdaipfmckonfpaa
open Go.ChangeShapes Go.WideShapes Go.ChangeAt Go.RowKit Go.Deep


theorem Try.cells5 : Try.prog.cellsOf 5 = 1 := by kernel_rfl
theorem Try.cells42 : Try.prog.cellsOf 42 = 1 := by kernel_rfl
theorem nums_src {W : World} {a : Addr} {cap len : Nat} {zs : List Int} (hl : len ≤ cap) (hz : zs.length = cap) (hc : ∀ j, j < cap → W.cell? (a.add j) = some (.int .u8 (zs.getD j 0))) (hw : ∀ n ∈ zs, (Lit.int .u8 n).wf = true) :
    ((zs.take len).map Int.toNat).length = len ∧ Src W (some a) (bts ((zs.take len).map Int.toNat)) ∧ ∀ b ∈ (zs.take len).map Int.toNat, b < 256 := by
  have hlen : ((zs.take len).map Int.toNat).length = len := by rw [List.length_map, List.length_take]; omega
  refine ⟨hlen, fun h0 => ⟨a, rfl, fun j u hu => ?_⟩, fun b hb => ?_⟩
  · have hj : j < len := by
      have h1 := (List.getElem?_eq_some_iff.1 hu).1
      rw [length_bts, hlen] at h1
      exact h1
    have h2 := hc j (by omega)
    rw [h2]
    have hjz : j < zs.length := by omega
    have hww := bounds_u8 (hw zs[j] (List.getElem_mem hjz))
    have h3 : ((zs.take len).map Int.toNat)[j]? = some zs[j].toNat := by
      rw [List.getElem?_map, List.getElem?_take, if_pos hj, List.getElem?_eq_getElem hjz]
      rfl
    have h4 := bts_at h3
    rw [h4] at hu
    injection hu with hu
    rw [← hu, List.getD_eq_getElem?_getD, List.getElem?_eq_getElem hjz]
    simp only [Option.getD_some]
    rw [Int.toNat_of_nonneg hww.1]
  · rw [List.mem_map] at hb
    obtain ⟨z, hz2, rfl⟩ := hb
    have hww := bounds_u8 (hw z (List.mem_of_mem_take hz2))
    omega
end Go.Proofs.Ytdaipfmckonfpaa
namespace Go.Proofs.Ytdaipfmckonfpaa
open Go.ChangeShapes Go.WideShapes Go.ChangeAt Go.RowKit Go.Deep Go.Joins

theorem Try.cells57p : Try.prog.cellsOf 57 = 2 := by kernel_rfl
theorem Try.cells3p : Try.prog.cellsOf 3 = 1 := by kernel_rfl
set_option maxRecDepth 100000 in
theorem bytes_cellp {H : Type} {enc : TypeId × Value → H} {W : World} {fuel : Nat} {cs : List Value} {y : DataW H × List MemPlace} (hf : DataW.trod enc Try.prog W 0 (fun _ => true) true fuel 42 cs = some y) :
    ∃ r : RowB, cs = [r.v] ∧ r.ok W := by
  rcases open_ints Try.underlying42 Try.underlying5 Try.cells5 hf with ⟨hcs, _⟩ | ⟨a, len', cap', zs, hcs, _, hl, hm, hz, _, hcell, hwz⟩
  · exact ⟨⟨none, 0, []⟩, hcs, fun h0 => absurd h0 (by simp [bts]), Nat.le_refl _, by show 0 ≤ 9223372036854775807; omega, fun b hb => by cases hb⟩
  · have hz : zs.length = cap' := by simpa using hz
    obtain ⟨h1, h2, h3⟩ := nums_src hl hz (fun j hj => hcell j (by omega)) hwz
    refine ⟨⟨some a, cap', (zs.take len').map Int.toNat⟩, by rw [hcs]; unfold RowB.v; rw [h1], h2, by show ((zs.take len').map Int.toNat).length ≤ cap'; omega, by show cap' ≤ 9223372036854775807; unfold maxLen at hm; exact hm, h3⟩
set_option maxRecDepth 100000 in
theorem part_cells {H : Type} {enc : TypeId × Value → H} {W : World} {fuel : Nat} {cs : List Value} {x : DataW H × List MemPlace}
    (h : DataW.trod enc Try.prog W 0 (fun _ => true) true fuel 57 cs = some x) : ∃ (a : Int) (r : RowB), cs = [.int .i64 a, r.v] ∧ r.ok W := by
  obtain ⟨xs, n, _, _, hl, hxs, hf⟩ := DataW.trod_struct Try.underlying57 h
  have h0 := hf 0 _ rfl
  have h1 := hf 1 _ rfl
  rw [Try.cells57p] at hl
  match cs, hl with
  | [c0, c1], _ =>
    have hxs' : xs.length = 2 := by simpa using hxs
    match xs, hxs' with
    | [y0, y1], _ =>
      have h0' : DataW.trod enc Try.prog W 0 (fun _ => true) true n 3 (([c0, c1].drop 0).take (Try.prog.cellsOf 3)) = some y0 := h0
      have h1' : DataW.trod enc Try.prog W 0 (fun _ => true) true n 42 (([c0, c1].drop 1).take (Try.prog.cellsOf 42)) = some y1 := h1
      rw [Try.cells3p] at h0'
      rw [Try.cells42] at h1'
      obtain ⟨a, ea, _, _⟩ := DataW.trod_int Try.underlying3 h0'
      obtain ⟨r, er, hr⟩ := bytes_cellp h1'
      simp at ea er
      exact ⟨a, r, by rw [ea, er], hr⟩
set_option maxRecDepth 100000 in
theorem parts_arg {H : Type} {enc : TypeId × Value → H} {W : World} {base : Nat} {v : Value} {d : DataW H} {p : List MemPlace} (hok : Value.okWide Try.prog W .any base 40 v)
    (h : DataW.Trod enc Try.prog W 0 (fun _ => true) true 40 v d p) : ∃ (A : Option Addr) (cap : Nat) (l : List PartM), v = .slice A l.length cap ∧ l.length ≤ cap ∧ cap ≤ 9223372036854775807 ∧ XSrc W A l := by
  obtain ⟨a0, len, cap, rfl⟩ := okWide_slice Try.underlying40 hok
  obtain ⟨fuel, hf⟩ := h
  rcases open_slice Try.underlying40 hf with ⟨hcs, _⟩ | ⟨a, len', cap', m, n, D, Pl, hcs, _, hl, hm, hmm, _, hcell⟩
  · have e : Value.slice a0 len cap = .slice none 0 0 := by simpa [Value.cells] using hcs
    rw [e]
    exact ⟨none, 0, [], rfl, Nat.le_refl _, by omega, fun h0 => absurd h0 (by simp)⟩
  · have e : Value.slice a0 len cap = .slice (some a) len' cap' := by simpa [Value.cells] using hcs
    rw [e]
    have hm' : m = cap' := by simpa using hmm
    have each : ∀ i, i < len' → ∃ o : PartM, W.cell? (a.add (i * 2)) = some (.int .i64 o.id) ∧ W.cell? (a.add (i * 2 + 1)) = some o.r.v ∧ o.r.ok W := by
      intro i hi
      obtain ⟨cs', hc, ht⟩ := hcell i (by omega)
      rw [Try.cells57p] at hc
      obtain ⟨t, r, rfl, hr⟩ := part_cells ht
      obtain ⟨_, _, hat⟩ := World.cells?_some hc
      have h0 := hat 0 (by omega)
      have h1 := hat 1 (by omega)
      rw [add_add] at h0 h1
      exact ⟨⟨t, r⟩, h0, h1, hr⟩
    have pick : ∃ f : Nat → PartM, ∀ i, i < len' → W.cell? (a.add (i * 2)) = some (.int .i64 (f i).id) ∧ W.cell? (a.add (i * 2 + 1)) = some (f i).r.v ∧ (f i).r.ok W := by
      refine ⟨fun i => if hi : i < len' then (each i hi).choose else ⟨0, ⟨none, 0, []⟩⟩, fun i hi => ?_⟩
      simp only [dif_pos hi]
      exact (each i hi).choose_spec
    obtain ⟨f, hf'⟩ := pick
    have hlen : ((List.range len').map f).length = len' := by simp
    refine ⟨some a, cap', (List.range len').map f, by rw [hlen], by omega, by unfold maxLen at hm; exact hm, fun h0 => ?_⟩
    rw [hlen] at h0
    obtain ⟨b, off, spot⟩ := a
    have hspot : spot = none := by
      have hc := (hf' 0 (by omega)).1
      simpa [Addr.add] using World.cell?_spot hc
    subst hspot
    refine ⟨b, off, rfl, fun k o ho => ?_⟩
    have hk : k < len' := by
      have h1 := (List.getElem?_eq_some_iff.1 ho).1
      rw [hlen] at h1
      exact h1
    have ho' : o = f k := by
      rw [List.getElem?_map, List.getElem?_range hk] at ho
      simp at ho
      exact ho.symm
    subst ho'
    have h3 := hf' k hk
    rw [add_plain, add_plain] at h3
    simpa [Nat.add_assoc] using h3
set_option maxRecDepth 100000 in
theorem part_arg {H : Type} {enc : TypeId × Value → H} {W : World} {base : Nat} {v : Value} {d : DataW H} {p : List MemPlace} (hok : Value.okWide Try.prog W .any base 57 v)
    (h : DataW.Trod enc Try.prog W 0 (fun _ => true) true 57 v d p) : ∃ x : PartM, v = x.v ∧ x.r.ok W := by
  obtain ⟨cs, rfl, hsz⟩ := okWide_struct Try.underlying57 hok
  obtain ⟨fuel, hf⟩ := h
  obtain ⟨a, r, e, hr⟩ := part_cells hf
  refine ⟨⟨a, r⟩, ?_, hr⟩
  have : cs = #[.int .i64 a, r.v] := by
    apply Array.toList_inj.1
    simpa [Value.cells] using e
  rw [this]
  rfl
end Go.Proofs.Ytdaipfmckonfpaa
