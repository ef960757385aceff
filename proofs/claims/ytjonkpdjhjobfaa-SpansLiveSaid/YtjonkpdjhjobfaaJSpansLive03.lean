/-
  The calls of package spans that hand spans out, and the one that takes places out. The gaps of a set. The document's answers for spans: Right and Count. The document's answers for spans: places changed. The document's runs of places, as plain lists: they are the one list of spans that has these places.
-/
import Derived.Test.YtjonkpdjhjobfaaJSpansLive02
import Derived.Laws.CopyRow
import Derived.Laws.EntriesVeiled
import Derived.Deep.Onto
import Derived.Test.YtjonkpdjhjobfaaJSpansLive01
namespace Go.Proofs.Ytjonkpdjhjobfaa
open Go.RowKit

theorem run_copy_two {P : Program} (w : World) (dT sT ty elem : TypeId) (g dLen dCap : Nat) (a : Addr) (sLen sCap n : Nat) (cur : Array Value) (t : TypeId) (cs : List Value)
    (hu : P.underlying dT = some (.slice elem)) (hs : (P.info? elem).map (·.size) = some 2)
    (hg : w.heap[g]? = some (.cells cur t (0, 0))) (hn : n = Nat.min sLen dLen) (hcs : cs.length = n * 2)
    (hsrc : ∀ j v, cs[j]? = some v → w.cell? (a.add j) = some v) (hfit : cs.length ≤ cur.size) (h1 : ∀ v ∈ cs, v.oneCell' = true) :
    (Builtin.copy_ #[dT, sT] ty #[.slice (some ⟨g, 0, none⟩) dLen dCap, .slice (some a) sLen sCap]).run P w =
      .ok (goInt n) (w.setRow g (cur.toList.take 0 ++ cs ++ cur.toList.drop (0 + cs.length)).toArray) := by
  have hl := run_loadCells_list (P := P) w a cs hsrc
  have hst := run_storeCells_at P g 0 t cs 0 cur w hg (by simpa using hfit) h1
  cases hq : P.info? elem with
  | none => simp [hq] at hs
  | some i =>
    have hi : i.size = 2 := by simpa [hq] using hs
    simp [Builtin.copy_, run_underlying hu, Builtin.lenOf, Builtin.firstCells, sizeOf, typeInfo, hq, hi, ← hn, ← hcs, hl]
    have h2 := hst
    simp at h2
    rw [h2]
    rfl

def zero2 (n : Nat) : Array Value := madeCells #[.int .i64 0, .int .i64 0] (n * 2)
theorem make_spans (n : Nat) (h : n ≤ 1000000) (w : World) :
    (Instr.makeSlice 83 (.int .i64 (n : Int)) (.int .i64 (n : Int))).run Try.prog w = .ok (.slice (some ⟨w.heap.size, 0, none⟩) n n) (w.alloc (.cells (zero2 n) 66)) := by
  obtain ⟨i, hi, hz, hs, hb⟩ := info66_parts
  have h := run_make (P := Try.prog) w 83 66 i _ Try.underlying83 hi hz .i64 .i64 n n (by omega) (Int.le_refl _) (by rw [hb]; omega) (by omega)
  rw [h, hs, Int.toNat_natCast]
  rfl
theorem copy_spans {w : World} {g : Nat} {sv : Value} {B : Nat} {L : List (Int × Int)} (hr : Row w g 66 (zero2 L.length)) (ho : w.ownsRow B 66 2 sv L.length (spc L)) :
    ∃ w', (Builtin.copy_ #[83, 83] 3 #[.slice (some ⟨g, 0, none⟩) L.length L.length, sv]).run Try.prog w = .ok (.int .i64 (L.length : Int)) w' ∧ Row w' g 66 (spc L).toArray ∧ Only (fun k => k = g) w w' := by
  have hsz : (Try.prog.info? 66).map (·.size) = some 2 := by
    obtain ⟨i, hi, _, h1, _⟩ := info66_parts
    rw [hi]
    simp [h1]
  rcases ho.2 with ⟨rfl, h0⟩ | ⟨g', cap, cur, rfl, _, _⟩
  · have hL : L = [] := List.eq_nil_of_length_eq_zero h0
    subst hL
    have h := run_copy_nil (P := Try.prog) w 83 83 3 66 ⟨g, 0, none⟩ 0 0 Try.underlying83 (by rw [Option.isSome_iff_exists]; exact ⟨2, hsz⟩)
    have e : zero2 ([] : List (Int × Int)).length = (spc []).toArray := by simp [zero2, madeCells, spc]
    rw [e] at hr
    exact ⟨w, h, hr, Only.refl _ _⟩
  · have h := run_copy_two (P := Try.prog) w 83 83 3 66 g L.length L.length ⟨g', 0, none⟩ L.length cap L.length (zero2 L.length) 66 (spc L) Try.underlying83 hsz hr (Nat.min_self _).symm (length_spc L) (ho.cells (g := g') rfl) (by rw [length_spc]; simp [zero2, size_madeCells]) (spc_one L)
    have e : (zero2 L.length).toList.take 0 ++ spc L ++ (zero2 L.length).toList.drop (0 + (spc L).length) = spc L := by
      rw [List.take_zero, List.nil_append, List.drop_eq_nil_of_le (by rw [length_spc]; simp [zero2, size_madeCells]), List.append_nil]
    rw [e] at h
    refine ⟨_, h, setRow_heap w g _ _ 66 _ hr, ⟨rfl, rfl, rfl, by simp [World.setRow], fun k _ hk => setRow_other w g k _ hk⟩⟩

set_option maxRecDepth 100000 in
set_option maxHeartbeats 800000 in
theorem spans_any {B p : Nat} {sv : Value} {L : List (Int × Int)} {w : World} (hr : SRep B w p sv L) (hl : L.length ≤ 100000) :
    Calls Try.prog 36 #[.pointer (some ⟨p, 0, none⟩)] w fun e w' => e = .returned (.slice (some ⟨w.heap.size, 0, none⟩) L.length L.length) ∧ Row w' w.heap.size 66 (spc L).toArray ∧ Below w.heap.size w w' := by
  have hc : w.cell? ⟨p, 0, none⟩ = some sv := hr.2.1.read rfl
  have hmk := make_spans L.length (by omega) w
  have hr2 := hr.later (bl_alloc (Below.refl _ _) (.cells (zero2 L.length) 66))
  have hc2 : (w.alloc (.cells (zero2 L.length) 66)).cell? ⟨p, 0, none⟩ = some sv := hr2.2.1.read rfl
  obtain ⟨A, cap, rfl, _, _⟩ := sown_shape hr.2.2
  obtain ⟨w2, hcp, hrow, ho⟩ := copy_spans (Row.made w 66 (zero2 L.length)) hr2.2.2
  have HROW := Lib.hid hrow
  have HO := Lib.hid (bl_only (bl_alloc (Below.refl _ _) (.cells (zero2 L.length) 66)) ho (fun k hk h => by omega) (by simp))
  have HCP := Lib.hid hcp
  clear hrow ho hcp hr hr2
  generalize hnn : L.length = n at *
  have HNN := Lib.hid hnn
  clear hnn
  go_enter Try.func36, Try.ntmps36
  go_wp2_with fail
  rw [HCP.out]
  go_wp2
  go_ret
  exact ⟨rfl, HROW.out, HO.out⟩

theorem each_take {B C p kb vb fb xb : Nat} {sv : Value} {L : List (Int × Int)} {x : Int × Int} {w0 w : World} (hr : SRep B w0 p sv L) (hl : L.length ≤ 20000) (hbl : Below w0.heap.size w0 w)
    (hk : KeptW C kb vb fb [] w) (hrow : Row w xb 66 #[.int .i64 x.1, .int .i64 x.2]) (hxC : xb < C) (hC : C ≤ w.heap.size) (hv : w0.heap.size ≤ vb) (hC0 : w0.heap.size ≤ C) :
    Calls Try.prog 100 #[.pointer (some ⟨p, 0, none⟩), .func (.func 101) #[] #[.pointer (some ⟨fb, 0, none⟩), .pointer (some ⟨xb, 0, none⟩)]] w fun e w' => e = .returned (.tuple #[]) ∧ KeptW C kb vb fb (takeF x L) w' ∧ Below w0.heap.size w0 w' := by
  refine (seach_any (B := B) (sv := sv) (L := L) (by omega) (fun k W => KeptW C kb vb fb (takeF x (L.take k)) W ∧ Row W xb 66 #[.int .i64 x.1, .int .i64 x.2] ∧ Below w0.heap.size w0 W ∧ C ≤ W.heap.size) w ⟨by simpa [takeF] using hk, hrow, hbl, hC⟩ (fun k W h => hr.later h.2.2.1) (fun k W y hy h => ?_)).mono (fun e w' h => ⟨h.1, by simpa using h.2.1, h.2.2.2.1⟩)
  have hlen : (takeF x (L.take k)).length ≤ 50000 := by
    have h1 : (takeF x (L.take k)).length ≤ 2 * (L.take k).length := by
      generalize L.take k = M
      induction M with
      | nil => simp [takeF]
      | cons z r ih =>
        have h3 := keepF_len (z.1, min z.2 x.1)
        have h4 := keepF_len (max z.1 x.2, z.2)
        show (takeY x z ++ takeF x r).length ≤ _
        unfold takeY
        simp
        omega
    have h2 : (L.take k).length ≤ L.length := by simp; omega
    omega
  refine (take1_any y h.1 h.2.1 hxC h.2.2.2 hlen).mono ?_
  rintro e w' ⟨rfl, h1, h2, h3⟩
  refine ⟨rfl, ?_, h2, bl_only h.2.2.1 h3 (fun k hk hh => by omega) h.2.2.1.size, by have := h3.size; omega⟩
  rw [take_snoc hy]
  have e : takeF x (L.take k ++ [y]) = takeF x (L.take k) ++ takeY x y := by simp [takeF]
  rw [e]
  exact h1

set_option maxRecDepth 100000 in
set_option maxHeartbeats 1600000 in
theorem take_any {B p : Nat} {sv : Value} {L : List (Int × Int)} {w : World} (x : Int × Int) (hx : srightB x = true) (hr : SRep B w p sv L) (hn : Norm 0 L) (hl : L.length ≤ 2047) (hB : B ≤ w.heap.size) :
    Calls Try.prog 28 #[.pointer (some ⟨p, 0, none⟩), spv x] w fun e w' => e = .returned (.int .i64 0) ∧ (∃ sv', SRep B w' p sv' (takeF x L)) ∧ Only (fun k => k = p) w w' := by
  obtain ⟨a, b⟩ := x
  have hx' := rightB_iff.1 hx
  have hlen := takeF_len hx'.2.2 hn
  have HX := Lib.hid hx
  have HR := Lib.hid hr
  have HT := Lib.hid (fun C kb vb fb xb w1 => each_take (C := C) (kb := kb) (vb := vb) (fb := fb) (xb := xb) (w := w1) (x := (a, b)) hr (by omega))
  have HB2 := Lib.hid (fun sv' w2 (h1 : SRep B w2 p sv L) (h2 : w2.ownsRow B 66 2 sv' (takeF (a, b) L).length (spc (takeF (a, b) L))) => become_any h1 h2 (by omega))
  clear hx hr hx' hlen hn
  generalize takeF (a, b) L = T at *
  show Calls Try.prog 28 #[_, .agg #[.int .i64 a, .int .i64 b]] w _
  go_enter Try.func28, Try.ntmps28
  go_wp2_with fail
  refine (fault_ok p (a, b) _ HX.out).mono ?_
  rintro e w1 ⟨rfl, hb1⟩
  have hs1 := hb1.size
  simp at hs1
  have HB1 := Lib.hid (bl_step (bl_alloc (Below.refl _ _) _) hb1)
  have HXR := Lib.hid ((Row.made w 66 #[.int .i64 a, .int .i64 b]).later hb1)
  clear hb1
  go_wp2_with fail
  refine (keeper_any _ _).mono ?_
  rintro e _ ⟨rfl, rfl⟩
  have hf1 := made1 w1 (.cells #[.slice none 0 0] 83) 162 #[.pointer (some ⟨w1.heap.size, 0, none⟩)]
  have hkw : KeptW (w1.heap.size + 3) (w1.heap.size + 1) w1.heap.size (w1.heap.size + 2) [] (((w1.alloc (.cells #[.slice none 0 0] 83)).alloc (.cells #[.pointer (some ⟨w1.heap.size, 0, none⟩)] 162)).alloc (.cells #[.func (.func 175) #[] #[.pointer (some ⟨w1.heap.size + 1, 0, none⟩)]] 160)) :=
    ⟨by omega, made2 _ _ _ _ _, by omega, by omega, hf1.more _, _, ((Row.made _ _ _).more _).more _, World.ownsRow_nil _ _ _ _⟩
  have HKW := Lib.hid hkw
  have HXR2 := Lib.hid (((HXR.out.more (.cells #[.slice none 0 0] 83)).more (.cells #[.pointer (some ⟨w1.heap.size, 0, none⟩)] 162)).more (.cells #[.func (.func 175) #[] #[.pointer (some ⟨w1.heap.size + 1, 0, none⟩)]] 160))
  have HB3 := Lib.hid (bl_alloc (bl_alloc (bl_alloc HB1.out (.cells #[.slice none 0 0] 83)) (.cells #[.pointer (some ⟨w1.heap.size, 0, none⟩)] 162)) (.cells #[.func (.func 175) #[] #[.pointer (some ⟨w1.heap.size + 1, 0, none⟩)]] 160))
  clear hf1 hkw HXR
  go_wp2_with fail
  refine (HT.out _ _ _ _ _ _ HB3.out HKW.out HXR2.out (by omega) (by simp) (by omega) (by omega)).mono ?_
  rintro e w2 ⟨rfl, ⟨_, _, _, _, _, sv2, h1, h2⟩, hb2⟩
  have c1 := h1.read (i := 0) rfl
  have HOW := Lib.hid (h2.mono (by omega : B ≤ w1.heap.size + 3))
  have HB4 := Lib.hid hb2
  clear h1 h2 hb2
  obtain ⟨A2, cap2, rfl, _, _⟩ := sown_shape HOW.out
  go_wp2_with fail
  refine (HB2.out _ _ (HR.out.later HB4.out) HOW.out).mono ?_
  rintro e w3 ⟨rfl, h3, h4⟩
  have H3 := Lib.hid h3
  have H4 := Lib.hid h4
  clear h3 h4
  go_wp2
  go_ret
  exact ⟨rfl, ⟨_, H3.out⟩, (Only.of_below HB4.out).andThen H4.out (fun k _ hk => hk)⟩
end Go.Proofs.Ytjonkpdjhjobfaa
namespace Go.Proofs.Ytjonkpdjhjobfaa
open Go.RowKit

/-- where a slice's cells lie -/
def SrcO (w : World) (A : Option Addr) (xs : List Value) : Prop := 0 < xs.length → ∃ b off, A = some ⟨b, off, none⟩ ∧ ∀ j u, xs[j]? = some u → w.cell? ⟨b, off + j, none⟩ = some u
theorem SrcO.later {w v : World} {A : Option Addr} {xs : List Value} (h : SrcO w A xs) (hb : Below w.heap.size w v) : SrcO v A xs := by
  intro h0
  obtain ⟨b, off, rfl, hc⟩ := h h0
  exact ⟨b, off, rfl, fun j u hu => kept_box hb (hc j u hu)⟩
def gstep (to : Int) (s : List (Int × Int) × Int) (y : Int × Int) : List (Int × Int) × Int := (s.1 ++ keepF (s.2, min y.1 to), y.2)
theorem gfold (to : Int) (L : List (Int × Int)) : ∀ (G : List (Int × Int)) (f : Int), (L.foldl (gstep to) (G, f)).1 ++ keepF ((L.foldl (gstep to) (G, f)).2, to) = G ++ gapsR to f L := by
  induction L with
  | nil => intro G f; rfl
  | cons y r ih =>
    intro G f
    rw [List.foldl_cons]
    show (r.foldl (gstep to) (G ++ keepF (f, min y.1 to), y.2)).1 ++ _ = _
    have := ih (G ++ keepF (f, min y.1 to)) y.2
    unfold gstep at this ⊢
    rw [this, List.append_assoc]
    rfl
theorem gfold_len (to : Int) (L : List (Int × Int)) : ∀ (G : List (Int × Int)) (f : Int), (L.foldl (gstep to) (G, f)).1.length ≤ G.length + L.length := by
  induction L with
  | nil => intro G f; simp
  | cons y r ih =>
    intro G f
    rw [List.foldl_cons]
    have h1 := ih (G ++ keepF (f, min y.1 to)) y.2
    have h2 := keepF_len (f, min y.1 to)
    simp at h1 ⊢
    unfold gstep at h1 ⊢
    simp at h1 ⊢
    omega

theorem each_gaps {B C p kb vb fb nb tb : Nat} {sv : Value} {L : List (Int × Int)} {to : Int} {w0 w : World} (hr : SRep B w0 p sv L) (hl : L.length ≤ 20000) (hbl : Below w0.heap.size w0 w)
    (hk : KeptW C kb vb fb [] w) (hn : Row w nb 3 #[.int .i64 0]) (ht : Row w tb 3 #[.int .i64 to]) (hnC : nb < C) (htC : tb < C) (hnt : tb ≠ nb) (hC : C ≤ w.heap.size) (hv : w0.heap.size ≤ vb) (hv2 : w0.heap.size ≤ nb) :
    Calls Try.prog 100 #[.pointer (some ⟨p, 0, none⟩), .func (.func 107) #[] #[.pointer (some ⟨fb, 0, none⟩), .pointer (some ⟨nb, 0, none⟩), .pointer (some ⟨tb, 0, none⟩)]] w fun e w' => e = .returned (.tuple #[]) ∧ KeptW C kb vb fb (L.foldl (gstep to) ([], 0)).1 w' ∧ Row w' nb 3 #[.int .i64 (L.foldl (gstep to) ([], 0)).2] ∧ Row w' tb 3 #[.int .i64 to] ∧ Below w0.heap.size w0 w' ∧ C ≤ w'.heap.size := by
  refine (seach_any (B := B) (sv := sv) (L := L) (by omega) (fun k W => KeptW C kb vb fb ((L.take k).foldl (gstep to) ([], 0)).1 W ∧ Row W nb 3 #[.int .i64 ((L.take k).foldl (gstep to) ([], 0)).2] ∧ Row W tb 3 #[.int .i64 to] ∧ Below w0.heap.size w0 W ∧ C ≤ W.heap.size) w ⟨hk, hn, ht, hbl, hC⟩ (fun k W h => hr.later h.2.2.2.1) (fun k W y hy h => ?_)).mono (fun e w' h => ⟨h.1, by simpa using h.2⟩)
  have hlen := gfold_len to (L.take k) [] 0
  have h2 : (L.take k).length ≤ L.length := by simp; omega
  simp only [List.length_nil] at hlen
  refine (gaps1_any y h.1 h.2.1 h.2.2.1 hnC htC hnt h.2.2.2.2 (by omega)).mono ?_
  rintro e w' ⟨rfl, h3, h4, h5, h6⟩
  rw [take_snoc hy, List.foldl_append]
  exact ⟨rfl, h3, h4, h5, bl_only h.2.2.2.1 h6 (fun k hk hh => by omega) h.2.2.2.1.size, by have := h6.size; have := h.2.2.2.2; omega⟩

set_option maxHeartbeats 800000 in
theorem gaps_out {p : Nat} (to : Int) (w : World) (h : to < 1 ∨ 65536 < to) :
    Calls Try.prog 38 #[.pointer (some ⟨p, 0, none⟩), .int .i64 to] w fun e w' => e = .returned (.slice none 0 0) ∧ Below w.heap.size w w' := by
  rcases h with h | h
  · go_enter Try.func38, Try.ntmps38
    go_wp2
    go_ret
    exact ⟨rfl, bl_alloc (Below.refl _ _) _⟩
  · have h' : ¬ to < 1 := by omega
    go_enter Try.func38, Try.ntmps38
    go_wp2
    go_ret
    exact ⟨rfl, bl_alloc (Below.refl _ _) _⟩

theorem made3 (w : World) (o o' o'' : Obj) (t : TypeId) (cs : Array Value) : Row ((((w.alloc o).alloc o').alloc o'').alloc (.cells cs t)) (w.heap.size + 3) t cs := by
  have := made2 (w.alloc o) o' o'' t cs
  simpa [Nat.add_assoc] using this
theorem made4 (w : World) (o o' o'' o3 : Obj) (t : TypeId) (cs : Array Value) : Row (((((w.alloc o).alloc o').alloc o'').alloc o3).alloc (.cells cs t)) (w.heap.size + 4) t cs := by
  have := made3 (w.alloc o) o' o'' o3 t cs
  simpa [Nat.add_assoc] using this

/-- spans handed out -/
def GapsDone (G : List (Int × Int)) (w : World) (e : Ending) (w' : World) : Prop := ∃ A, e = .returned (.slice A G.length G.length) ∧ SrcO w' A (spc G) ∧ Below w.heap.size w w'

set_option maxRecDepth 100000 in
set_option maxHeartbeats 1600000 in
theorem gaps_any {B p : Nat} {sv : Value} {L : List (Int × Int)} {w : World} (to : Int) (h1 : 1 ≤ to) (h2 : to ≤ 65536) (hr : SRep B w p sv L) (hl : L.length ≤ 20000) :
    Calls Try.prog 38 #[.pointer (some ⟨p, 0, none⟩), .int .i64 to] w (GapsDone (gapsR to 0 L) w) := by
  have HE := Lib.hid (fun C kb vb fb nb tb w1 => each_gaps (C := C) (kb := kb) (vb := vb) (fb := fb) (nb := nb) (tb := tb) (to := to) (w := w1) hr hl)
  have HG := Lib.hid (show (L.foldl (gstep to) ([], 0)).1 ++ keepF ((L.foldl (gstep to) ([], 0)).2, to) = gapsR to 0 L by have := gfold to L [] 0; simpa using this)
  have hgl := gfold_len to L [] 0
  clear hr
  generalize L.foldl (gstep to) ([], 0) = gf at *
  obtain ⟨G, f⟩ := gf
  generalize gapsR to 0 L = R at *
  have k1 := made2 w (.cells #[.int .i64 to] 3) (.cells #[.slice none 0 0] 83) 162 #[.pointer (some ⟨w.heap.size + 1, 0, none⟩)]
  have k2 := made3 w (.cells #[.int .i64 to] 3) (.cells #[.slice none 0 0] 83) (.cells #[.pointer (some ⟨w.heap.size + 1, 0, none⟩)] 162) 160 #[.func (.func 175) #[] #[.pointer (some ⟨w.heap.size + 2, 0, none⟩)]]
  have k3 := made4 w (.cells #[.int .i64 to] 3) (.cells #[.slice none 0 0] 83) (.cells #[.pointer (some ⟨w.heap.size + 1, 0, none⟩)] 162) (.cells #[.func (.func 175) #[] #[.pointer (some ⟨w.heap.size + 2, 0, none⟩)]] 160) 3 #[.int .i64 0]
  have k0 := made1 w (.cells #[.int .i64 to] 3) 83 #[.slice none 0 0]
  have kt := Row.made w 3 #[.int .i64 to]
  have HK : Hid (KeptW (w.heap.size + 5) (w.heap.size + 2) (w.heap.size + 1) (w.heap.size + 3) [] (((((w.alloc (.cells #[.int .i64 to] 3)).alloc (.cells #[.slice none 0 0] 83)).alloc (.cells #[.pointer (some ⟨w.heap.size + 1, 0, none⟩)] 162)).alloc (.cells #[.func (.func 175) #[] #[.pointer (some ⟨w.heap.size + 2, 0, none⟩)]] 160)).alloc (.cells #[.int .i64 0] 3))) :=
    Lib.hid ⟨by omega, k2.more _, by omega, by omega, (k1.more _).more _, _, ((k0.more _).more _).more _, World.ownsRow_nil _ _ _ _⟩
  have HN := Lib.hid k3
  have HT := Lib.hid ((((kt.more (.cells #[.slice none 0 0] 83)).more (.cells #[.pointer (some ⟨w.heap.size + 1, 0, none⟩)] 162)).more (.cells #[.func (.func 175) #[] #[.pointer (some ⟨w.heap.size + 2, 0, none⟩)]] 160)).more (.cells #[.int .i64 0] 3))
  have HB := Lib.hid (bl_alloc (bl_alloc (bl_alloc (bl_alloc (bl_alloc (Below.refl w.heap.size w) (.cells #[.int .i64 to] 3)) (.cells #[.slice none 0 0] 83)) (.cells #[.pointer (some ⟨w.heap.size + 1, 0, none⟩)] 162)) (.cells #[.func (.func 175) #[] #[.pointer (some ⟨w.heap.size + 2, 0, none⟩)]] 160)) (.cells #[.int .i64 0] 3))
  clear k0 k1 k2 k3 kt
  go_enter Try.func38, Try.ntmps38
  go_wp2_with (go_at_call 99; refine (keeper_any _ _).mono ?_; rintro e _ ⟨rfl, rfl⟩)
  refine (HE.out _ _ _ _ _ _ _ HB.out HK.out HN.out HT.out (by omega) (by omega) (by omega) (by simp) (by omega) (by omega)).mono ?_
  rintro e w1 ⟨rfl, hk, hn, ht, hb, hC⟩
  have c1 := hk.2.1.read (i := 0) rfl
  have c2 := hn.read (i := 0) rfl
  have c3 := ht.read (i := 0) rfl
  have HK1 := Lib.hid hk
  have HB1 := Lib.hid hb
  clear hk hn ht hb
  go_wp2_with fail
  refine (keep_any w1.heap.size (f, to) HK1.out.2.2 HK1.out.own hC (by simp at hgl; omega)).mono ?_
  rintro e w2 ⟨rfl, ⟨_, _, _, sv2, hr2, ho2⟩, hoo⟩
  have hb2 := bl_only HB1.out hoo (fun k hk hh => by omega) HB1.out.size
  rw [HG.out] at ho2
  have c4 := hr2.read (i := 0) rfl
  have HB2 := Lib.hid hb2
  clear hr2 hoo hb2 c1 c2 c3
  rcases ho2.2 with ⟨rfl, h0⟩ | ⟨g, cap, cur, rfl, hb3, hh, hcap, hmx, _⟩
  · have hR : R = [] := List.eq_nil_of_length_eq_zero h0
    subst hR
    have HF : Hid (GapsDone [] w (.returned (.slice none 0 0)) w2) := Lib.hid ⟨none, rfl, fun h => absurd h (by simp [spc]), HB2.out⟩
    clear ho2
    go_wp2
    go_ret
    exact HF.out
  · have hcell := ho2.cells (g := g) rfl
    have HF : Hid (GapsDone R w (.returned (.slice (some ⟨g, 0, none⟩) R.length R.length)) w2) := Lib.hid ⟨_, rfl, fun _ => ⟨g, 0, rfl, fun j u hu => by rw [Nat.zero_add]; have := hcell j u hu; rwa [sadd_zero_addr] at this⟩, HB2.out⟩
    unfold maxLen at hmx
    clear ho2 hcell hh
    go_wp2
    go_ret
    exact HF.out
end Go.Proofs.Ytjonkpdjhjobfaa
namespace Go.Proofs.Ytjonkpdjhjobfaa
open Go.RowKit

set_option maxHeartbeats 800000 in
theorem refright_any (y : Int × Int) (w : World) :
    Calls Try.prog 33 #[spv y] w fun e w' => e = .returned (.bool (srightB y)) ∧ Below w.heap.size w w' := by
  obtain ⟨a, b⟩ := y
  by_cases h1 : 0 ≤ a
  · by_cases h2 : a < b
    · by_cases h3 : b ≤ 65536
      · have HR := Lib.hid (show srightB (a, b) = true from rightB_iff.2 ⟨h1, h3, h2⟩)
        show Calls Try.prog 33 #[.agg #[.int .i64 a, .int .i64 b]] w _
        go_enter Try.func33, Try.ntmps33
        go_wp2
        go_ret
        exact ⟨by rw [HR.out]; rfl, by first | exact bl_alloc (Below.refl _ _) _ | exact below_drewN (bl_alloc (Below.refl _ _) _) _⟩
      · have HR := Lib.hid (show srightB (a, b) = false by rw [← Bool.not_eq_true, rightB_iff]; simp only; omega)
        show Calls Try.prog 33 #[.agg #[.int .i64 a, .int .i64 b]] w _
        go_enter Try.func33, Try.ntmps33
        go_wp2
        go_ret
        exact ⟨by rw [HR.out]; rfl, bl_alloc (Below.refl _ _) _⟩
    · have HR := Lib.hid (show srightB (a, b) = false by rw [← Bool.not_eq_true, rightB_iff]; simp only; omega)
      show Calls Try.prog 33 #[.agg #[.int .i64 a, .int .i64 b]] w _
      go_enter Try.func33, Try.ntmps33
      go_wp2
      go_ret
      exact ⟨by rw [HR.out]; rfl, bl_alloc (Below.refl _ _) _⟩
  · have HR := Lib.hid (show srightB (a, b) = false by rw [← Bool.not_eq_true, rightB_iff]; simp only; omega)
    show Calls Try.prog 33 #[.agg #[.int .i64 a, .int .i64 b]] w _
    go_enter Try.func33, Try.ntmps33
    go_wp2
    go_ret
    exact ⟨by rw [HR.out]; rfl, bl_alloc (Below.refl _ _) _⟩

/-- truths as values -/
def sbls (l : List Bool) : List Value := l.map Value.bool
theorem slength_bls (l : List Bool) : (sbls l).length = l.length := by simp [sbls]
theorem sbls_at {l : List Bool} {i : Nat} {b : Bool} (h : l[i]? = some b) : (sbls l)[i]? = some (.bool b) := by simp [sbls, h]
/-- how many of k places from a on are there -/
def cB (l : List Bool) (a : Nat) : Nat → Nat
  | 0 => 0
  | k + 1 => cB l a k + if l.getD (a + k) false then 1 else 0
theorem cB_le (l : List Bool) (a k : Nat) : cB l a k ≤ k := by
  induction k with
  | zero => exact Nat.le_refl _
  | succ k ih => unfold cB; split <;> omega
theorem cB_beyond (l : List Bool) (a k m : Nat) (h : l.length ≤ a + k) : cB l a (k + m) = cB l a k := by
  induction m with
  | zero => rfl
  | succ m ih =>
    rw [← Nat.add_assoc, cB, ih, List.getD_eq_getElem?_getD, List.getElem?_eq_none (by omega)]
    simp

theorem cellx {w : World} {p : Addr} {x : Value} (h : w.cell? p = some x) (o o' : Obj) : ((w.alloc o).alloc o').cell? p = some x := by
  have h1 := (World.cell?_alloc_some w p o (by rw [h]; rfl)).trans h
  exact (World.cell?_alloc_some _ p o' (by rw [h1]; rfl)).trans h1

set_option maxRecDepth 100000 in
set_option maxHeartbeats 1600000 in
theorem refcount_any {A : Option Addr} {l : List Bool} (c a b N : Nat) (w : World) (hN : l.length = N) (hl : N ≤ 65536) (hb : b ≤ 65536) (hab : a ≤ b) (hs : SrcO w A (sbls l)) :
    Calls Try.prog 32 #[.agg #[.slice A N c], .agg #[.int .i64 a, .int .i64 b]] w fun e w' => e = .returned (.int .i64 (cB l a (b - a) : Nat)) ∧ Below w.heap.size w w' := by
  have HS := Lib.hid hs
  have HN := Lib.hid hN
  clear hs hN
  go_enter Try.func32, Try.ntmps32
  go_wp2
  go_loopw [5, 6] (fun n i wr => ∃ q m : Nat, q ≤ b - a ∧ (q : Int) + a ≤ b ∧ m ≤ q ∧ n = .int .i64 m ∧ i = .int .i64 ((a + q : Nat) : Int) ∧ Hid (m = cB l a q) ∧ wr = ((w.alloc (.cells #[.slice A N c] 71)).alloc (.cells #[.int .i64 a, .int .i64 b] 77))) (fun _ i _ => b - (intOf i).toNat)
  case atStart => exact ⟨0, 0, by omega, by omega, by omega, rfl, rfl, Lib.hid rfl, rfl⟩
  case round =>
    obtain ⟨q, m, hq, hqb, hmq, rfl, rfl, HM, rfl⟩ := hrel
    obtain ⟨z, hz⟩ : ∃ z, z = a + q := ⟨_, rfl⟩
    have HZ := Lib.hid hz
    rw [← hz]
    by_cases h1 : z < b
    · have h1' : (z : Int) < (b : Int) := by omega
      by_cases h2 : z < N
      · have h2' : (z : Int) < (N : Int) := by omega
        have hzl : z < l.length := by have := HN.out; omega
        have hx : l[z]? = some l[z] := List.getElem?_eq_getElem hzl
        obtain ⟨b9, o9, rfl, hc⟩ := HS.out (by rw [slength_bls, HN.out]; omega)
        have c0 := cellx (hc _ _ (sbls_at hx)) (.cells #[.slice (some ⟨b9, o9, none⟩) N c] 71) (.cells #[.int .i64 a, .int .i64 b] 77)
        have HS1 := Lib.hid (show cB l a (q + 1) = cB l a q + if l[z] then 1 else 0 by rw [cB, ← hz, List.getD_eq_getElem?_getD, hx]; rfl)
        generalize l[z] = x at *
        have hz0 : (0 : Int) ≤ (z : Int) := by omega
        clear hc hx hz hzl
        cases x
        · go_wp2
          go_roundw
          case rel => exact ⟨q + 1, m, by have := HZ.out; omega, by have := HZ.out; omega, by omega, rfl, congrArg (Value.int .i64) (by have := HZ.out; omega), by rw [HS1.out, ← HM.out]; exact Lib.hid rfl, trivial⟩
          case measure => simp [intOf]; omega
        · go_wp2
          go_roundw
          case rel => exact ⟨q + 1, m + 1, by have := HZ.out; omega, by have := HZ.out; omega, by omega, by go_num, congrArg (Value.int .i64) (by have := HZ.out; omega), by rw [HS1.out, ← HM.out]; exact Lib.hid rfl, trivial⟩
          case measure => simp [intOf]; omega
      · have h2' : ¬ (z : Int) < (N : Int) := by omega
        have HE := Lib.hid (show cB l a (b - a) = m by
          rw [show b - a = q + (b - a - q) by omega, cB_beyond l a q _ (by rw [HN.out]; omega), ← HM.out])
        clear hz
        go_wp2
        go_ret
        exact ⟨by rw [HE.out]; rfl, bl_alloc (bl_alloc (Below.refl _ _) _) _⟩
    · have h1' : ¬ (z : Int) < (b : Int) := by omega
      have HE := Lib.hid (show cB l a (b - a) = m by rw [show b - a = q by omega, ← HM.out])
      clear hz
      go_wp2
      go_ret
      exact ⟨by rw [HE.out]; rfl, bl_alloc (bl_alloc (Below.refl _ _) _) _⟩
end Go.Proofs.Ytjonkpdjhjobfaa
namespace Go.Proofs.Ytjonkpdjhjobfaa
open Go.RowKit

theorem Try.info4l : (Try.prog.info? 4).map (fun i => (i.zero, i.size, i.bytes)) = some (some (.bool false), 1, 1) := by kernel_rfl
theorem info4_parts : ∃ i, Try.prog.info? 4 = some i ∧ i.zero = some (.bool false) ∧ i.size = 1 ∧ i.bytes = 1 := by
  obtain ⟨i, hi, h⟩ := Option.map_eq_some_iff.1 Try.info4l
  injection h with h1 h2
  injection h2 with h2 h3
  exact ⟨i, hi, h1, h2, h3⟩
theorem Try.under50 : Try.prog.underlying 50 = some (.slice 4) := by kernel_rfl

def setB (l : List Bool) (a : Nat) (v : Bool) : Nat → List Bool
  | 0 => l
  | k + 1 => (setB l a v k).set (a + k) v
theorem length_setB (l : List Bool) (a k : Nat) (v : Bool) : (setB l a v k).length = l.length := by
  induction k with
  | zero => rfl
  | succ k ih => rw [setB, List.length_set, ih]
theorem setB_at (l : List Bool) (a k : Nat) (v : Bool) (h : a + k ≤ l.length) (p : Nat) : (setB l a v k).getD p false = if a ≤ p ∧ p < a + k then v else l.getD p false := by
  induction k with
  | zero => rw [setB, if_neg (by omega)]
  | succ k ih =>
    have ih := ih (by omega)
    rw [setB, List.getD_eq_getElem?_getD, List.getElem?_set]
    by_cases hp : a + k = p
    · subst hp
      rw [if_pos rfl, if_pos (by rw [length_setB]; omega), if_pos (by omega)]
      rfl
    · rw [if_neg hp, ← List.getD_eq_getElem?_getD, ih]
      by_cases h1 : a ≤ p ∧ p < a + k
      · rw [if_pos h1, if_pos (by omega)]
      · rw [if_neg h1, if_neg (by omega)]
def padB (l : List Bool) (m : Nat) : List Bool := l ++ List.replicate m false
theorem padB_at (l : List Bool) (m p : Nat) : (padB l m).getD p false = l.getD p false := by
  unfold padB
  rw [List.getD_eq_getElem?_getD, List.getD_eq_getElem?_getD]
  by_cases h : p < l.length
  · rw [List.getElem?_append_left h]
  · rw [List.getElem?_append_right (by omega), List.getElem?_eq_none (l := l) (by omega), List.getElem?_replicate]
    split <;> rfl
/-- the places of a span changed -/
def withB (l : List Bool) (a b : Nat) (v : Bool) : List Bool := setB (padB l (b - l.length)) a v (b - a)
theorem withB_at (l : List Bool) (a b : Nat) (v : Bool) (h : a ≤ b) (p : Nat) : (withB l a b v).getD p false = if a ≤ p ∧ p < b then v else l.getD p false := by
  unfold withB
  rw [setB_at _ _ _ _ (by unfold padB; simp; omega), padB_at, show a + (b - a) = b by omega]
theorem length_withB (l : List Bool) (a b : Nat) (v : Bool) : (withB l a b v).length = max l.length b := by
  unfold withB padB
  rw [length_setB]
  simp
  omega

theorem run_append_empty4 {P : Program} (w : World) (t ty e : TypeId) (i : TypeInfo) (ht : P.underlying t = some (.slice e)) (hi : P.info? e = some i) (A : Option Addr) (c : Nat) :
    (Builtin.append_ #[t, t] ty #[.slice none 0 0, .slice A 0 c]).run P w = .ok (.slice none 0 0) w := by
  cases A <;> simp [Builtin.append_, run_underlying ht, sizeOf, typeInfo, hi, Builtin.lenOf, Builtin.firstCells, loadCells, loadCellsFrom]
theorem wpList_append_empty4 {P : Program} (w : World) {ops : Array Oper} {rest : List Oper} {o : Oper} {a : Act} {Q : Exit → Act → World → Prop} (hgd : o.guard = none) (s x : Operand) (t : TypeId)
    (ho : o.op = .call { callee := .builtin .append, args := #[s, x], argTypes := #[t, t] }) (e : TypeId) (i : TypeInfo) (ht : P.underlying t = some (.slice e)) (hi : P.info? e = some i)
    (hs : a.eval s = .slice none 0 0) (A : Option Addr) (c : Nat) (hx : a.eval x = .slice A 0 c) (h : wpList P ops Q rest (a.put o.dst (.slice none 0 0)) w) : wpList P ops Q (o :: rest) a w := by
  refine wpList_plain hgd fun K hK => ?_
  unfold Oper.wp execOp
  simp only [ho, resolve, invoke, builtin, Sem.run_bind, Sem.run_pure, Result.andThen_ok, List.map_toArray, List.map_cons, List.map_nil, hs, hx, run_append_empty4 w t o.type e i ht hi]
  exact hK _ _ h
theorem sbls_one (l : List Bool) : ∀ v ∈ sbls l, v.oneCell' = true := by
  intro v hv
  simp only [sbls, List.mem_map] at hv
  obtain ⟨b, _, rfl⟩ := hv
  rfl
/-- a list of truths of the call's own -/
def SOwnL (B : Nat) (w : World) (x : Value) (l : List Bool) : Prop := w.ownsRow B 4 1 x l.length (sbls l)
theorem SOwnL.form {B : Nat} {w : World} {x : Value} {l : List Bool} (h : SOwnL B w x l) : ∃ A c, x = .slice A l.length c := by
  rcases h.2 with ⟨rfl, h0⟩ | ⟨g, c, cur, rfl, _⟩
  · exact ⟨none, 0, by rw [h0]⟩
  · exact ⟨_, c, rfl⟩
end Go.Proofs.Ytjonkpdjhjobfaa
namespace Go.Proofs.Ytjonkpdjhjobfaa
open Go.RowKit

theorem norm_snoc {y : Int × Int} : ∀ {T : List (Int × Int)} {lo : Int}, Norm lo (T ++ [y]) ↔ Norm lo T ∧ (∀ z ∈ T, z.2 < y.1) ∧ lo ≤ y.1 ∧ y.1 < y.2 ∧ y.2 ≤ 65536
  | [], lo => by simp [Norm]
  | z :: T, lo => by
    simp only [List.cons_append, Norm, norm_snoc (T := T), List.mem_cons, forall_eq_or_imp]
    constructor
    · rintro ⟨h1, h2, h3, h4, h5, h6, h7, h8⟩
      exact ⟨⟨h1, h2, h3, h4⟩, ⟨by omega, h5⟩, by omega, h7, h8⟩
    · rintro ⟨⟨h1, h2, h3, h4⟩, ⟨h5, h6⟩, h7, h8, h9⟩
      exact ⟨h1, h2, h3, h4, h6, by omega, h8, h9⟩
/-- the place n joined to what ends there, or alone -/
def joinR (R : List (Int × Int)) (n : Nat) : List (Int × Int) :=
  if (R.getLast?.map (·.2)) = some (n : Int) then R.dropLast ++ [((R.getLast?.map (·.1)).getD 0, (n : Int) + 1)] else R ++ [((n : Int), (n : Int) + 1)]
theorem joinR_nil (n : Nat) : joinR [] n = [((n : Int), (n : Int) + 1)] := by simp [joinR]
theorem joinR_join (T : List (Int × Int)) (a : Int) (n : Nat) : joinR (T ++ [(a, (n : Int))]) n = T ++ [(a, (n : Int) + 1)] := by simp [joinR]
theorem joinR_else (T : List (Int × Int)) (a b : Int) (n : Nat) (h : b ≠ n) : joinR (T ++ [(a, b)]) n = T ++ [(a, b)] ++ [((n : Int), (n : Int) + 1)] := by
  unfold joinR
  rw [if_neg (by simpa using h)]
/-- the longest spans of places where f is, ahead of n -/
def runG (f : Nat → Bool) : Nat → List (Int × Int)
  | 0 => []
  | n + 1 => if f n then joinR (runG f n) n else runG f n
theorem snoc_cases (R : List (Int × Int)) : R = [] ∨ ∃ T a b, R = T ++ [(a, b)] := by
  rcases List.eq_nil_or_concat R with h | ⟨T, y, h⟩
  · exact .inl h
  · exact .inr ⟨T, y.1, y.2, by simpa using h⟩
theorem ins_one {p a b : Int} : Ins p [(a, b)] ↔ a ≤ p ∧ p < b := by simp [Ins]
theorem runG_ok (f : Nat → Bool) : ∀ n : Nat, n ≤ 65536 → Norm 0 (runG f n) ∧ (∀ z ∈ runG f n, z.2 ≤ (n : Int)) ∧ (∀ p : Int, Ins p (runG f n) ↔ 0 ≤ p ∧ p < n ∧ f p.toNat = true) ∧ (runG f n).length ≤ n
  | 0, _ => ⟨trivial, (fun z hz => by cases hz), fun p => ⟨fun h => absurd h ins_nil, fun h => by omega⟩, Nat.le_refl _⟩
  | n + 1, hn => by
    obtain ⟨h1, h2, h3, h4⟩ := runG_ok f n (by omega)
    unfold runG
    have hcut : ∀ p : Int, (0 ≤ p ∧ p < ((n + 1 : Nat) : Int) ∧ f p.toNat = true) ↔ (0 ≤ p ∧ p < (n : Int) ∧ f p.toNat = true) ∨ (p = n ∧ f n = true) := by
      intro p
      constructor
      · rintro ⟨a, b, c⟩
        by_cases hp : p = n
        · subst hp; exact .inr ⟨rfl, by simpa using c⟩
        · exact .inl ⟨a, by omega, c⟩
      · rintro (⟨a, b, c⟩ | ⟨rfl, c⟩)
        · exact ⟨a, by omega, c⟩
        · exact ⟨by omega, by omega, by simpa using c⟩
    by_cases hf : f n = true
    · rw [if_pos hf]
      rcases snoc_cases (runG f n) with h0 | ⟨T, a, b, h0⟩
      · rw [h0] at h3 ⊢
        rw [joinR_nil]
        refine ⟨⟨by omega, by simp only; omega, by simp only; omega, trivial⟩, by simp, fun p => ?_, by simp⟩
        rw [hcut, ins_one, ← h3]
        constructor
        · rintro ⟨a, b⟩; exact .inr ⟨by omega, hf⟩
        · rintro (h | ⟨rfl, _⟩)
          · exact absurd h ins_nil
          · omega
      · rw [h0] at h1 h2 h3 h4 ⊢
        obtain ⟨n1, n2, n3, n4, n5⟩ := norm_snoc.1 h1
        have hb : b ≤ (n : Int) := h2 (a, b) (by simp)
        simp only at n3 n4 n5
        by_cases hbn : b = n
        · subst hbn
          rw [joinR_join]
          refine ⟨norm_snoc.2 ⟨n1, n2, n3, by simp only; omega, by simp only; omega⟩, ?_, fun p => ?_, by simpa using Nat.le_succ_of_le h4⟩
          · intro z hz
            rcases List.mem_append.1 hz with hz | hz
            · have := h2 z (List.mem_append_left _ hz); omega
            · simp only [List.mem_singleton] at hz; subst hz; simp
          · rw [hcut, ← h3, ins_append, ins_append, ins_one, ins_one]
            constructor
            · rintro (h | ⟨x, y⟩)
              · exact .inl (.inl h)
              · by_cases hp : p = n
                · exact .inr ⟨hp, hf⟩
                · exact .inl (.inr ⟨x, by omega⟩)
            · rintro ((h | ⟨x, y⟩) | ⟨rfl, _⟩)
              · exact .inl h
              · exact .inr ⟨x, by omega⟩
              · exact .inr ⟨by omega, by omega⟩
        · rw [joinR_else T a b n hbn]
          refine ⟨norm_snoc.2 ⟨h1, ?_, by simp only; omega, by simp only; omega, by simp only; omega⟩, ?_, fun p => ?_, by simp at h4 ⊢; omega⟩
          · intro z hz
            rcases List.mem_append.1 hz with hz | hz
            · have := n2 z hz; simp only at this ⊢; omega
            · simp only [List.mem_singleton] at hz; subst hz; simp only; omega
          · intro z hz
            rcases List.mem_append.1 hz with hz | hz
            · have := h2 z hz; omega
            · simp only [List.mem_singleton] at hz; subst hz; simp
          · rw [hcut, ← h3, ins_append, ins_one]
            constructor
            · rintro (h | ⟨x, y⟩)
              · exact .inl h
              · exact .inr ⟨by omega, hf⟩
            · rintro (h | ⟨rfl, _⟩)
              · exact .inl h
              · exact .inr ⟨by omega, by omega⟩
    · rw [if_neg hf]
      refine ⟨h1, fun z hz => by have := h2 z hz; omega, fun p => ?_, by omega⟩
      rw [hcut, h3]
      simp [hf]
/-- the spans L are the places that l tells -/
def SL (L : List (Int × Int)) (l : List Bool) : Prop := Norm 0 L ∧ ∀ p : Nat, l.getD p false = insB L p
theorem getD_far (l : List Bool) {p : Nat} (h : l.length ≤ p) : l.getD p false = false := by
  rw [List.getD_eq_getElem?_getD, List.getElem?_eq_none h]; rfl
theorem SL.ins {L : List (Int × Int)} {l : List Bool} (h : SL L l) (p : Int) : Ins p L ↔ 0 ≤ p ∧ l.getD p.toNat false = true := by
  constructor
  · intro hp
    have := h.1.ge hp
    refine ⟨this.1, ?_⟩
    rw [h.2, insB_iff]
    rwa [Int.toNat_of_nonneg this.1]
  · rintro ⟨h0, hp⟩
    rw [h.2, insB_iff, Int.toNat_of_nonneg h0] at hp
    exact hp
/-- all runs of what is there are the set's spans -/
theorem SL.runs {L : List (Int × Int)} {l : List Bool} (h : SL L l) (n : Nat) (hn : l.length ≤ n) (h6 : n ≤ 65536) : runG (fun i => l.getD i false == true) n = L := by
  obtain ⟨h1, _, h3, _⟩ := runG_ok (fun i => l.getD i false == true) n h6
  refine norm_unique h1 h.1 fun p => ?_
  rw [h3, h.ins]
  constructor
  · rintro ⟨a, _, c⟩; exact ⟨a, by simpa using c⟩
  · rintro ⟨a, c⟩
    refine ⟨a, ?_, by simpa using c⟩
    rcases Nat.lt_or_ge p.toNat l.length with hp | hp
    · omega
    · rw [getD_far l hp] at c; cases c
theorem SL.gaps {L : List (Int × Int)} {l : List Bool} (h : SL L l) (n : Nat) (h6 : n ≤ 65536) : runG (fun i => l.getD i false == false) n = gapsR n 0 L := by
  obtain ⟨h1, _, h3, _⟩ := runG_ok (fun i => l.getD i false == false) n h6
  refine norm_unique h1 (gapsR_norm (by omega) h.1 0 (Int.le_refl _)) fun p => ?_
  rw [h3, gapsR_ins h.1 0 (Int.le_refl _), h.ins]
  constructor
  · rintro ⟨a, b, c⟩; exact ⟨a, b, fun ⟨_, d⟩ => by rw [d] at c; cases c⟩
  · rintro ⟨a, b, c⟩
    refine ⟨a, b, ?_⟩
    cases hx : l.getD p.toNat false
    · rfl
    · exact absurd ⟨a, hx⟩ c
theorem cB_cnt (l : List Bool) : ∀ n : Nat, cB l 0 n = cnt (fun p => l.getD p false) n
  | 0 => rfl
  | n + 1 => by
    rw [cB, cnt, cB_cnt l n, Nat.zero_add]
/-- how many places there are -/
theorem SL.count {L : List (Int × Int)} {l : List Bool} (h : SL L l) : countF L = (cB l 0 l.length : Nat) := by
  rw [countF_cnt (N := l.length) (Int.le_refl 0) h.1, cB_cnt]
  · exact congrArg _ (cnt_congr fun p _ => (h.2 p).symm)
  · intro y hy
    have hm := h.1.mem hy
    rcases Int.lt_or_le (l.length : Int) y.2 with hlt | hge
    · have hi : Ins (y.2 - 1) L := ⟨y, hy, by omega, by omega⟩
      obtain ⟨_, hg⟩ := (h.ins _).1 hi
      rw [getD_far l (by omega)] at hg
      cases hg
    · exact hge
/-- some, and all, of a span's places -/
theorem cB_pos {l : List Bool} {a : Nat} : ∀ k : Nat, 0 < cB l a k ↔ ∃ j, j < k ∧ l.getD (a + j) false = true
  | 0 => by simp [cB]
  | k + 1 => by
    rw [cB]
    cases hx : l.getD (a + k) false
    · simp only [Bool.false_eq_true, if_false, Nat.add_zero]
      rw [cB_pos k]
      constructor
      · rintro ⟨j, h1, h2⟩; exact ⟨j, by omega, h2⟩
      · rintro ⟨j, h1, h2⟩
        by_cases hj : j = k
        · subst hj; rw [hx] at h2; cases h2
        · exact ⟨j, by omega, h2⟩
    · simp only [if_true]
      exact ⟨fun _ => ⟨k, by omega, hx⟩, fun _ => by omega⟩
theorem cB_all {l : List Bool} {a : Nat} : ∀ k : Nat, cB l a k = k ↔ ∀ j, j < k → l.getD (a + j) false = true
  | 0 => by simp [cB]
  | k + 1 => by
    have hle := cB_le l a k
    rw [cB]
    cases hx : l.getD (a + k) false
    · simp only [Bool.false_eq_true, if_false, Nat.add_zero]
      refine ⟨fun h => by omega, fun h => ?_⟩
      have := h k (by omega)
      rw [hx] at this; cases this
    · simp only [if_true]
      rw [Nat.add_right_cancel_iff, cB_all k]
      constructor
      · intro h j hj
        by_cases hjk : j = k
        · subst hjk; exact hx
        · exact h j (by omega)
      · intro h j hj; exact h j (by omega)
theorem SL.has {L : List (Int × Int)} {l : List Bool} (h : SL L l) (a b : Nat) (hab : a < b) (h6 : b ≤ 65536) : (hasF ((a : Int), (b : Int)) L && srightB ((a : Int), (b : Int))) = decide (cB l a (b - a) = b - a) := by
  have hr : srightB ((a : Int), (b : Int)) = true := rightB_iff.2 ⟨by simp only; omega, by simp only; omega, by simp only; omega⟩
  rw [hr, Bool.and_true, Bool.eq_iff_iff, hasF_iff h.1 (by simp only; omega), decide_eq_true_iff, cB_all]
  constructor
  · intro hh j hj
    have := ((h.ins _).1 (hh ((a + j : Nat) : Int) (by simp only; omega) (by simp only; omega))).2
    rwa [Int.toNat_natCast] at this
  · intro hh p h1 h2
    simp only at h1 h2
    refine (h.ins p).2 ⟨by omega, ?_⟩
    have := hh (p.toNat - a) (by omega)
    rwa [show a + (p.toNat - a) = p.toNat by omega] at this
theorem SL.tou {L : List (Int × Int)} {l : List Bool} (h : SL L l) (a b : Nat) (hab : a < b) (h6 : b ≤ 65536) : (touF ((a : Int), (b : Int)) L && srightB ((a : Int), (b : Int))) = decide (0 < cB l a (b - a)) := by
  have hr : srightB ((a : Int), (b : Int)) = true := rightB_iff.2 ⟨by simp only; omega, by simp only; omega, by simp only; omega⟩
  rw [hr, Bool.and_true, Bool.eq_iff_iff, touF_iff h.1 (by simp only; omega), decide_eq_true_iff, cB_pos]
  constructor
  · rintro ⟨p, h1, h2, h3⟩
    simp only at h1 h2
    have := ((h.ins p).1 h3)
    exact ⟨p.toNat - a, by omega, by rw [show a + (p.toNat - a) = p.toNat by omega]; exact this.2⟩
  · rintro ⟨j, h1, h2⟩
    exact ⟨((a + j : Nat) : Int), by simp only; omega, by simp only; omega, (h.ins _).2 ⟨by omega, by rw [Int.toNat_natCast]; exact h2⟩⟩
/-- a span put in, or taken out -/
theorem SL.change {L M : List (Int × Int)} {l : List Bool} (h : SL L l) (a b : Nat) (hab : a < b) (v : Bool) (hM : Norm 0 M) (hi : ∀ p : Int, Ins p M ↔ if v then Ins p L ∨ ((a : Int) ≤ p ∧ p < b) else Ins p L ∧ ¬ ((a : Int) ≤ p ∧ p < b)) : SL M (withB l a b v) := by
  refine ⟨hM, fun p => ?_⟩
  rw [withB_at l a b v (by omega), Bool.eq_iff_iff, insB_iff, hi, ← insB_iff (L := L), ← h.2]
  by_cases hp : a ≤ p ∧ p < b
  · have hp' : ((a : Int) ≤ p ∧ (p : Int) < b) := by omega
    rw [if_pos hp]
    cases v <;> simp [hp']
  · have hp' : ¬ ((a : Int) ≤ p ∧ (p : Int) < b) := by omega
    rw [if_neg hp]
    cases v
    · simp only [Bool.false_eq_true, if_false]; exact ⟨fun hh => ⟨hh, hp'⟩, fun hh => hh.1⟩
    · simp only [if_true]; exact ⟨fun hh => .inl hh, fun hh => hh.resolve_right hp'⟩
theorem SL.none : SL [] [] := ⟨trivial, fun _ => rfl⟩
end Go.Proofs.Ytjonkpdjhjobfaa
