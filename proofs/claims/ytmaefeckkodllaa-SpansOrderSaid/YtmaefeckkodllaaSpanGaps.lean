/-
  The gaps of a set.
-/
import Derived.Test.YtmaefeckkodllaaSpanTake
namespace Go.Proofs.Ytmaefeckkodllaa
open Go.RowKit

/-- where a slice's cells lie -/
def SrcO (w : World) (A : Option Addr) (xs : List Value) : Prop := 0 < xs.length → ∃ b off, A = some ⟨b, off, none⟩ ∧ ∀ j u, xs[j]? = some u → w.cell? ⟨b, off + j, none⟩ = some u
theorem SrcO.later {w v : World} {A : Option Addr} {xs : List Value} (h : SrcO w A xs) (hb : Below w.heap.size w v) : SrcO v A xs := by
  intro h0
  obtain ⟨b, off, rfl, hc⟩ := h h0
  exact ⟨b, off, rfl, fun j u hu => kept_box hb (hc j u hu)⟩
theorem Row.srcO {w : World} {g : Nat} {t : TypeId} {xs : List Value} (h : Row w g t xs.toArray) : SrcO w (some ⟨g, 0, none⟩) xs :=
  fun _ => ⟨g, 0, rfl, fun j u hu => by rw [Nat.zero_add]; exact h.read (by simpa using hu)⟩

def gstep (to : Int) (s : List (Int × Int) × Int) (y : Int × Int) : List (Int × Int) × Int := (s.1 ++ keepF (s.2, min y.1 to), y.2)
theorem gfold (to : Int) (L : List (Int × Int)) : ∀ (G : List (Int × Int)) (f : Int), (L.foldl (gstep to) (G, f)).1 ++ keepF ((L.foldl (gstep to) (G, f)).2, to) = G ++ gapsR to f L := by
  induction L with
  | nil => intro G f; rfl
  | cons y r ih =>
    intro G f
    rw [List.foldl_cons]
    show (r.foldl (gstep to) (G ++ keepF (f, min y.1 to), y.2)).1 ++ _ = _
    have := ih (G ++ keepF (f, min y.1 to)) y.2
    unfold gstep at this ⊢
    rw [this, List.append_assoc]
    rfl
theorem gfold_len (to : Int) (L : List (Int × Int)) : ∀ (G : List (Int × Int)) (f : Int), (L.foldl (gstep to) (G, f)).1.length ≤ G.length + L.length := by
  induction L with
  | nil => intro G f; simp
  | cons y r ih =>
    intro G f
    rw [List.foldl_cons]
    have h1 := ih (G ++ keepF (f, min y.1 to)) y.2
    have h2 := keepF_len (f, min y.1 to)
    simp at h1 ⊢
    unfold gstep at h1 ⊢
    simp at h1 ⊢
    omega

theorem each_gaps {B C p kb vb fb nb tb : Nat} {sv : Value} {L : List (Int × Int)} {to : Int} {w0 w : World} (hr : SRep B w0 p sv L) (hl : L.length ≤ 20000) (hbl : Below w0.heap.size w0 w)
    (hk : KeptW C kb vb fb [] w) (hn : Row w nb 3 #[.int .i64 0]) (ht : Row w tb 3 #[.int .i64 to]) (hnC : nb < C) (htC : tb < C) (hnt : tb ≠ nb) (hC : C ≤ w.heap.size) (hv : w0.heap.size ≤ vb) (hv2 : w0.heap.size ≤ nb) :
    Calls Try.prog 47 #[.pointer (some ⟨p, 0, none⟩), .func (.func 54) #[] #[.pointer (some ⟨fb, 0, none⟩), .pointer (some ⟨nb, 0, none⟩), .pointer (some ⟨tb, 0, none⟩)]] w fun e w' => e = .returned (.tuple #[]) ∧ KeptW C kb vb fb (L.foldl (gstep to) ([], 0)).1 w' ∧ Row w' nb 3 #[.int .i64 (L.foldl (gstep to) ([], 0)).2] ∧ Row w' tb 3 #[.int .i64 to] ∧ Below w0.heap.size w0 w' ∧ C ≤ w'.heap.size := by
  refine (each_any (B := B) (sv := sv) (L := L) (by omega) (fun k W => KeptW C kb vb fb ((L.take k).foldl (gstep to) ([], 0)).1 W ∧ Row W nb 3 #[.int .i64 ((L.take k).foldl (gstep to) ([], 0)).2] ∧ Row W tb 3 #[.int .i64 to] ∧ Below w0.heap.size w0 W ∧ C ≤ W.heap.size) w ⟨hk, hn, ht, hbl, hC⟩ (fun k W h => hr.later h.2.2.2.1) (fun k W y hy h => ?_)).mono (fun e w' h => ⟨h.1, by simpa using h.2⟩)
  have hlen := gfold_len to (L.take k) [] 0
  have h2 : (L.take k).length ≤ L.length := by simp; omega
  simp only [List.length_nil] at hlen
  refine (gaps1_any y h.1 h.2.1 h.2.2.1 hnC htC hnt h.2.2.2.2 (by omega)).mono ?_
  rintro e w' ⟨rfl, h3, h4, h5, h6⟩
  rw [take_snoc hy, List.foldl_append]
  exact ⟨rfl, h3, h4, h5, bl_only h.2.2.2.1 h6 (fun k hk hh => by omega) h.2.2.2.1.size, by have := h6.size; have := h.2.2.2.2; omega⟩

set_option maxHeartbeats 800000 in
theorem gaps_out {p : Nat} (to : Int) (w : World) (h : to < 1 ∨ 65536 < to) :
    Calls Try.prog 23 #[.pointer (some ⟨p, 0, none⟩), .int .i64 to] w fun e w' => e = .returned (.slice none 0 0) ∧ Below w.heap.size w w' := by
  rcases h with h | h
  · go_enter Try.func23, Try.ntmps23
    go_wp2
    go_ret
    exact ⟨rfl, bl_alloc (Below.refl _ _) _⟩
  · have h' : ¬ to < 1 := by omega
    go_enter Try.func23, Try.ntmps23
    go_wp2
    go_ret
    exact ⟨rfl, bl_alloc (Below.refl _ _) _⟩

theorem made3 (w : World) (o o' o'' : Obj) (t : TypeId) (cs : Array Value) : Row ((((w.alloc o).alloc o').alloc o'').alloc (.cells cs t)) (w.heap.size + 3) t cs := by
  have := made2 (w.alloc o) o' o'' t cs
  simpa [Nat.add_assoc] using this
theorem made4 (w : World) (o o' o'' o3 : Obj) (t : TypeId) (cs : Array Value) : Row (((((w.alloc o).alloc o').alloc o'').alloc o3).alloc (.cells cs t)) (w.heap.size + 4) t cs := by
  have := made3 (w.alloc o) o' o'' o3 t cs
  simpa [Nat.add_assoc] using this

/-- spans handed out -/
def GapsDone (G : List (Int × Int)) (w : World) (e : Ending) (w' : World) : Prop := ∃ A, e = .returned (.slice A G.length G.length) ∧ SrcO w' A (spc G) ∧ Below w.heap.size w w'

set_option maxRecDepth 100000 in
set_option maxHeartbeats 1600000 in
theorem gaps_any {B p : Nat} {sv : Value} {L : List (Int × Int)} {w : World} (to : Int) (h1 : 1 ≤ to) (h2 : to ≤ 65536) (hr : SRep B w p sv L) (hl : L.length ≤ 20000) :
    Calls Try.prog 23 #[.pointer (some ⟨p, 0, none⟩), .int .i64 to] w (GapsDone (gapsR to 0 L) w) := by
  have HE := Lib.hid (fun C kb vb fb nb tb w1 => each_gaps (C := C) (kb := kb) (vb := vb) (fb := fb) (nb := nb) (tb := tb) (to := to) (w := w1) hr hl)
  have HG := Lib.hid (show (L.foldl (gstep to) ([], 0)).1 ++ keepF ((L.foldl (gstep to) ([], 0)).2, to) = gapsR to 0 L by have := gfold to L [] 0; simpa using this)
  have hgl := gfold_len to L [] 0
  clear hr
  generalize L.foldl (gstep to) ([], 0) = gf at *
  obtain ⟨G, f⟩ := gf
  generalize gapsR to 0 L = R at *
  have k1 := made2 w (.cells #[.int .i64 to] 3) (.cells #[.slice none 0 0] 45) 91 #[.pointer (some ⟨w.heap.size + 1, 0, none⟩)]
  have k2 := made3 w (.cells #[.int .i64 to] 3) (.cells #[.slice none 0 0] 45) (.cells #[.pointer (some ⟨w.heap.size + 1, 0, none⟩)] 91) 89 #[.func (.func 63) #[] #[.pointer (some ⟨w.heap.size + 2, 0, none⟩)]]
  have k3 := made4 w (.cells #[.int .i64 to] 3) (.cells #[.slice none 0 0] 45) (.cells #[.pointer (some ⟨w.heap.size + 1, 0, none⟩)] 91) (.cells #[.func (.func 63) #[] #[.pointer (some ⟨w.heap.size + 2, 0, none⟩)]] 89) 3 #[.int .i64 0]
  have k0 := made1 w (.cells #[.int .i64 to] 3) 45 #[.slice none 0 0]
  have kt := Row.made w 3 #[.int .i64 to]
  have HK : Hid (KeptW (w.heap.size + 5) (w.heap.size + 2) (w.heap.size + 1) (w.heap.size + 3) [] (((((w.alloc (.cells #[.int .i64 to] 3)).alloc (.cells #[.slice none 0 0] 45)).alloc (.cells #[.pointer (some ⟨w.heap.size + 1, 0, none⟩)] 91)).alloc (.cells #[.func (.func 63) #[] #[.pointer (some ⟨w.heap.size + 2, 0, none⟩)]] 89)).alloc (.cells #[.int .i64 0] 3))) :=
    Lib.hid ⟨by omega, k2.more _, by omega, by omega, (k1.more _).more _, _, ((k0.more _).more _).more _, World.ownsRow_nil _ _ _ _⟩
  have HN := Lib.hid k3
  have HT := Lib.hid ((((kt.more (.cells #[.slice none 0 0] 45)).more (.cells #[.pointer (some ⟨w.heap.size + 1, 0, none⟩)] 91)).more (.cells #[.func (.func 63) #[] #[.pointer (some ⟨w.heap.size + 2, 0, none⟩)]] 89)).more (.cells #[.int .i64 0] 3))
  have HB := Lib.hid (bl_alloc (bl_alloc (bl_alloc (bl_alloc (bl_alloc (Below.refl w.heap.size w) (.cells #[.int .i64 to] 3)) (.cells #[.slice none 0 0] 45)) (.cells #[.pointer (some ⟨w.heap.size + 1, 0, none⟩)] 91)) (.cells #[.func (.func 63) #[] #[.pointer (some ⟨w.heap.size + 2, 0, none⟩)]] 89)) (.cells #[.int .i64 0] 3))
  clear k0 k1 k2 k3 kt
  go_enter Try.func23, Try.ntmps23
  go_wp2_with (go_at_call 46; refine (keeper_any _ _).mono ?_; rintro e _ ⟨rfl, rfl⟩)
  refine (HE.out _ _ _ _ _ _ _ HB.out HK.out HN.out HT.out (by omega) (by omega) (by omega) (by simp) (by omega) (by omega)).mono ?_
  rintro e w1 ⟨rfl, hk, hn, ht, hb, hC⟩
  have c1 := hk.2.1.read (i := 0) rfl
  have c2 := hn.read (i := 0) rfl
  have c3 := ht.read (i := 0) rfl
  have HK1 := Lib.hid hk
  have HB1 := Lib.hid hb
  clear hk hn ht hb
  go_wp2_with fail
  refine (keep_any w1.heap.size (f, to) HK1.out.2.2 HK1.out.own hC (by simp at hgl; omega)).mono ?_
  rintro e w2 ⟨rfl, ⟨_, _, _, sv2, hr2, ho2⟩, hoo⟩
  have hb2 := bl_only HB1.out hoo (fun k hk hh => by omega) HB1.out.size
  rw [HG.out] at ho2
  have c4 := hr2.read (i := 0) rfl
  have HB2 := Lib.hid hb2
  clear hr2 hoo hb2 c1 c2 c3
  rcases ho2.2 with ⟨rfl, h0⟩ | ⟨g, cap, cur, rfl, hb3, hh, hcap, hmx, _⟩
  · have hR : R = [] := List.eq_nil_of_length_eq_zero h0
    subst hR
    have HF : Hid (GapsDone [] w (.returned (.slice none 0 0)) w2) := Lib.hid ⟨none, rfl, fun h => absurd h (by simp [spc]), HB2.out⟩
    clear ho2
    go_wp2
    go_ret
    exact HF.out
  · have hcell := ho2.cells (g := g) rfl
    have HF : Hid (GapsDone R w (.returned (.slice (some ⟨g, 0, none⟩) R.length R.length)) w2) := Lib.hid ⟨_, rfl, fun _ => ⟨g, 0, rfl, fun j u hu => by rw [Nat.zero_add]; have := hcell j u hu; rwa [add_zero_addr] at this⟩, HB2.out⟩
    unfold maxLen at hmx
    clear ho2 hcell hh
    go_wp2
    go_ret
    exact HF.out
end Go.Proofs.Ytmaefeckkodllaa
