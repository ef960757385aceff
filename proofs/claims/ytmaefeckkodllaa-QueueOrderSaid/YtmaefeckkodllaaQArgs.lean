/-
  How the arguments of the statements of queue read: bytes, lists of bytes; whatever is pushed, what comes of it.
-/
import Derived.Test.YtmaefeckkodllaaLaw
import Derived.Test.YtmaefeckkodllaaQueueAlive
import Derived.Deep.Matrix
namespace Go.Proofs.Ytmaefeckkodllaa
open Go.ChangeShapes Go.WideShapes Go.ChangeAt Go.RowKit Go.Deep

theorem Try.cells5 : Try.prog.cellsOf 5 = 1 := by kernel_rfl
theorem Try.cells64 : Try.prog.cellsOf 64 = 1 := by kernel_rfl

theorem add_of (b off j : Nat) : (⟨b, off, none⟩ : Addr).add j = ⟨b, off + j, none⟩ := by
  unfold Addr.add
  split
  · rename_i h; rw [h]; rfl
  · rfl
theorem nums_src {W : World} {a : Addr} {cap len : Nat} {zs : List Int} (hl : len ≤ cap) (hz : zs.length = cap) (hc : ∀ j, j < cap → W.cell? (a.add j) = some (.int .u8 (zs.getD j 0))) (hw : ∀ n ∈ zs, (Lit.int .u8 n).wf = true) :
    ((zs.take len).map Int.toNat).length = len ∧ SrcB W (some a) (bts ((zs.take len).map Int.toNat)) ∧ ∀ b ∈ (zs.take len).map Int.toNat, b < 256 := by
  have hlen : ((zs.take len).map Int.toNat).length = len := by rw [List.length_map, List.length_take]; omega
  refine ⟨hlen, fun h0 => ?_, fun b hb => ?_⟩
  · rw [length_bts, hlen] at h0
    obtain ⟨b, off, spot⟩ := a
    have hspot : spot = none := by
      have h1 := hc 0 (by omega)
      simpa [Addr.add] using World.cell?_spot h1
    subst hspot
    refine ⟨b, off, rfl, fun j u hu => ?_⟩
    have hj : j < len := by
      have h1 := (List.getElem?_eq_some_iff.1 hu).1
      rw [length_bts, hlen] at h1
      exact h1
    have h2 := hc j (by omega)
    rw [add_of] at h2
    rw [h2]
    have hjz : j < zs.length := by omega
    have hww := bounds_u8 (hw zs[j] (List.getElem_mem hjz))
    have h3 : ((zs.take len).map Int.toNat)[j]? = some zs[j].toNat := by
      rw [List.getElem?_map, List.getElem?_take, if_pos hj, List.getElem?_eq_getElem hjz]
      rfl
    have h4 := bts_at h3
    rw [h4] at hu
    injection hu with hu
    rw [← hu, List.getD_eq_getElem?_getD, List.getElem?_eq_getElem hjz]
    simp only [Option.getD_some]
    rw [Int.toNat_of_nonneg hww.1]
  · rw [List.mem_map] at hb
    obtain ⟨z, hz2, rfl⟩ := hb
    have hww := bounds_u8 (hw z (List.mem_of_mem_take hz2))
    omega

theorem bytes_arg {H : Type} {enc : TypeId × Value → H} {W : World} {base : Nat} {v : Value} {d : DataW H} {p : List MemPlace} (hok : Value.okWide Try.prog W .any base 64 v)
    (h : DataW.Trod enc Try.prog W 0 (fun _ => true) true 64 v d p) : ∃ (A : Option Addr) (cap : Nat) (l : List Nat), v = .slice A l.length cap ∧ l.length ≤ cap ∧ cap ≤ maxLen ∧ SrcB W A (bts l) ∧ ∀ b ∈ l, b < 256 := by
  obtain ⟨a0, len, cap, rfl⟩ := okWide_slice Try.underlying64 hok
  obtain ⟨fuel, hf⟩ := h
  rcases open_ints Try.underlying64 Try.underlying5 Try.cells5 hf with ⟨hcs, _⟩ | ⟨a, len', cap', zs, hcs, _, hl, hm, hz, _, hcell, hwz⟩
  · simp only [Value.cells] at hcs
    have e : Value.slice a0 len cap = .slice none 0 0 := by simpa using hcs
    rw [e]
    exact ⟨none, 0, [], rfl, Nat.le_refl _, by simp [maxLen], fun h0 => absurd h0 (by simp [bts]), fun b hb => by cases hb⟩
  · have e : Value.slice a0 len cap = .slice (some a) len' cap' := by simpa [Value.cells] using hcs
    rw [e]
    have hz' : zs.length = cap' := by simpa using hz
    obtain ⟨h1, h2, h3⟩ := nums_src (W := W) (a := a) hl hz' (fun j hj => hcell j (by omega)) hwz
    exact ⟨some a, cap', _, by rw [h1], by omega, hm, h2, h3⟩

/-- a list of bytes as it came in -/
structure RowB where
  A : Option Addr
  cap : Nat
  bs : List Nat
def RowB.ok (W : World) (r : RowB) : Prop := SrcB W r.A (bts r.bs) ∧ r.bs.length ≤ r.cap ∧ r.cap ≤ 9223372036854775807 ∧ ∀ b ∈ r.bs, b < 256
def RSrc (W : World) (A : Option Addr) (L : List RowB) : Prop :=
  0 < L.length → ∃ b off, A = some ⟨b, off, none⟩ ∧ ∀ k r, L[k]? = some r → W.cell? ⟨b, off + k, none⟩ = some (.slice r.A r.bs.length r.cap) ∧ r.ok W
theorem rows_arg {H : Type} {enc : TypeId × Value → H} {W : World} {base : Nat} {v : Value} {d : DataW H} {p : List MemPlace} (hok : Value.okWide Try.prog W .any base 60 v)
    (h : DataW.Trod enc Try.prog W 0 (fun _ => true) true 60 v d p) : ∃ (A : Option Addr) (cap : Nat) (L : List RowB), v = .slice A L.length cap ∧ L.length ≤ cap ∧ cap ≤ 9223372036854775807 ∧ RSrc W A L := by
  obtain ⟨a0, len, cap, rfl⟩ := okWide_slice Try.underlying60 hok
  obtain ⟨fuel, hf⟩ := h
  rcases open_int_rows Try.underlying60 Try.underlying64 Try.underlying5 Try.cells64 Try.cells5 hf with ⟨hcs, _⟩ | ⟨a, len', cap', A, L, C, Z, hcs, _, hl, hm, _, hx⟩
  · have e : Value.slice a0 len cap = .slice none 0 0 := by simpa [Value.cells] using hcs
    rw [e]
    exact ⟨none, 0, [], rfl, Nat.le_refl _, by omega, fun h0 => absurd h0 (by simp)⟩
  · have e : Value.slice a0 len cap = .slice (some a) len' cap' := by simpa [Value.cells] using hcs
    rw [e]
    have hlen : ((List.range len').map fun k => (⟨A k, C k, ((Z k).take (L k)).map Int.toNat⟩ : RowB)).length = len' := by simp
    refine ⟨some a, cap', (List.range len').map fun k => ⟨A k, C k, ((Z k).take (L k)).map Int.toNat⟩, by rw [hlen], by omega, by unfold maxLen at hm; exact hm, fun h0 => ?_⟩
    rw [hlen] at h0
    obtain ⟨b, off, spot⟩ := a
    have hspot : spot = none := by
      have h1 := (hx 0 (by omega)).1
      simpa [Addr.add] using World.cell?_spot h1
    subst hspot
    refine ⟨b, off, rfl, fun k r hr => ?_⟩
    have hk : k < len' := by
      have h1 := (List.getElem?_eq_some_iff.1 hr).1
      rw [hlen] at h1
      exact h1
    have hr' : r = ⟨A k, C k, ((Z k).take (L k)).map Int.toNat⟩ := by
      rw [List.getElem?_map, List.getElem?_range hk] at hr
      simp only [Option.map_some, Option.some.injEq] at hr
      exact hr.symm
    subst hr'
    obtain ⟨h1, h2, h3, h4, h5, h6, h7⟩ := hx k (by omega)
    rw [add_of] at h1
    unfold maxLen at h3
    have hll : (((Z k).take (L k)).map Int.toNat).length = L k := by rw [List.length_map, List.length_take]; omega
    refine ⟨by rw [h1]; show _ = some (Value.slice (A k) (((Z k).take (L k)).map Int.toNat).length (C k)); rw [hll], ?_⟩
    cases hA : A k with
    | none =>
      have hc0 := h6 hA
      have hl0 : L k = 0 := by omega
      refine ⟨fun h0 => ?_, by rw [hll]; exact h2, h3, fun b hb => ?_⟩
      · rw [length_bts, hll] at h0; omega
      · rw [hl0] at hb; simp at hb
    | some a' =>
      obtain ⟨_, hc⟩ := h7 a' hA
      obtain ⟨_, g2, g3⟩ := nums_src (W := W) h2 h4 hc h5
      exact ⟨g2, by rw [hll]; exact h2, h3, g3⟩

/-- whatever is pushed: refused, or the last text -/
def PushAny (B p last : Nat) (room : Int) (ts : List Txt) (l : List Nat) (w : World) (e : Ending) (w' : World) : Prop :=
  ∃ (nid : Nat) (er : Int), e = .returned (.tuple #[.int .u64 nid, .int .i64 er]) ∧ QOnly B w w' ∧
    ((er = 0 ∧ nid = last + 1 ∧ 0 < l.length ∧ l.length ≤ 1000 ∧ ts.length < 64 ∧ (bytesF ts : Int) + l.length ≤ room ∧ ∃ t : Txt, t.id = last + 1 ∧ t.bs = l ∧ t.bg = false ∧ QRep B w' p room (last + 1) (ts ++ [t])) ∨
     (er ≠ 0 ∧ nid = 0 ∧ QRep B w' p room last ts ∧ er = if l.length = 0 then 1 else if 1000 < l.length then 2 else 5))
theorem push_all {B p last : Nat} {room : Int} {ts : List Txt} {w : World} (A : Option Addr) (l : List Nat) (c : Nat) (h : QRep B w p room last ts) (hr : 0 < room) (hr2 : room ≤ 20000) (hb : (bytesF ts : Int) ≤ room) (hts : ts.length ≤ 64) (hll : l.length ≤ 9223372036854775807) (hlast : last ≤ 1000000000)
    (hsrc : ∀ W, QOnly B w W → SrcB W A (bts l)) :
    Calls Try.prog 30 #[.pointer (some ⟨p, 0, none⟩), .slice A l.length c] w (PushAny B p last room ts l w) := by
  rcases Nat.eq_zero_or_pos l.length with h0 | h0
  · rw [h0]
    refine (push_arg A c h hr).mono ?_
    rintro e w' ⟨rfl, rfl⟩
    exact ⟨0, 1, rfl, QOnly.refl _ _, .inr ⟨by omega, rfl, h, by rw [if_pos h0]⟩⟩
  · rcases Nat.lt_or_ge 1000 l.length with h1 | h1
    · refine (push_long A l.length c h hr h1 hll).mono ?_
      rintro e w' ⟨rfl, rfl⟩
      exact ⟨0, 2, rfl, QOnly.refl _ _, .inr ⟨by omega, rfl, h, by rw [if_neg (by omega), if_pos h1]⟩⟩
    · by_cases hf : ts.length = 64 ∨ room < (bytesF ts : Int) + l.length
      · refine (push_full A l.length c h hr hr2 hb h0 h1 hts hf).mono ?_
        rintro e w' ⟨rfl, hbl⟩
        exact ⟨0, 5, rfl, QOnly.of_below hbl, .inr ⟨by omega, rfl, h.later hbl, by rw [if_neg (by omega), if_neg (by omega)]⟩⟩
      · refine (push_ok A l c h hr hr2 h0 h1 (by omega) (by omega) hlast hsrc).mono ?_
        rintro e w' ⟨rfl, ⟨t, h2, h3, h4, h5⟩, h6⟩
        exact ⟨last + 1, 0, by simp, h6, .inl ⟨rfl, rfl, h0, h1, by omega, by omega, t, h2, h3, h4, h5⟩⟩
/-- bytes from below a queue's memory -/
theorem src_q {B : Nat} {w0 w W : World} {A : Option Addr} {xs : List Value} (h0 : SrcB w0 A xs) (hbw : Below w0.heap.size w0 w) (hB : w0.heap.size ≤ B) (hBw : B ≤ w.heap.size) (hq : QOnly B w W) : SrcB W A xs :=
  h0.later (hbw.trans ((hq.below hBw).mono hB))
end Go.Proofs.Ytmaefeckkodllaa
