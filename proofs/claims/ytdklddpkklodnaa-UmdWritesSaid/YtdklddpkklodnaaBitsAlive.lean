/-
  Bytes of memory as a text.
-/
import Derived.Test.YtdklddpkklodnaaBitsRest
import Derived.Laws.BytesString
import Derived.Laws.IdiomStrings
namespace Go.Proofs.Ytdklddpkklodnaa
open Go.RowKit

/-- bytes as a text -/
def strOf (l : List Nat) : ByteArray := ⟨(l.map UInt8.ofNat).toArray⟩

theorem conv_str {w : World} {g c : Nat} {l : List Nat} (h : Row w g 5 (bts l).toArray) (hb : ∀ b ∈ l, b < 256) :
    (convert 30 9 (.slice (some ⟨g, 0, none⟩) l.length c)).run Try.prog w = .ok (.string (strOf l)) w := by
  have hx := run_convert_bytes_back (P := Try.prog) w 30 9 5 ⟨g, 0, none⟩ c (l.map UInt8.ofNat) Try.underlying30 Try.underlying5 Try.underlying9 (fun j hj => by
    have hj' : j < l.length := by simpa using hj
    rw [add_zero_addr]
    have h1 : (bts l)[j]? = some (.int .u8 (l[j] : Nat)) := bts_at (List.getElem?_eq_getElem hj')
    have h2 := h.read (i := j) (x := .int .u8 (l[j] : Nat)) (by simpa using h1)
    rw [h2, List.getElem_map]
    have h3 : (UInt8.ofNat l[j]).toNat = l[j] := UInt8.toNat_ofNat_of_lt' (hb _ (List.getElem_mem hj'))
    rw [h3])
  rw [List.length_map] at hx
  exact hx

theorem wrote_below {B : Nat} {w w' : World} {p : Nat} {sv : Value} {bl : List Bool} (hr : WRep B w p sv bl) (h : Only (fun k => k = p ∨ sv.ownBlock = some k) w w') : Below B w w' :=
  h.below (by have := hr.1; have := hr.2.1.inside; omega) (fun k hk hS => by
    rcases hS with h1 | h1
    · have := hr.1; omega
    · have := (hr.2.2.lt k h1).1; omega)
theorem get_below {B p : Nat} {w w' : World} (h : Only (fun k => k = p) w w') (hp : B ≤ p) (hB : B ≤ w.heap.size) : Below B w w' :=
  h.below hB (fun k hk hS => by omega)
end Go.Proofs.Ytdklddpkklodnaa
