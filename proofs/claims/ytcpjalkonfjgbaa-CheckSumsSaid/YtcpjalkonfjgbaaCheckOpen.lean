/-
  The document's Open; Open of the code and of the document together.
-/
import Derived.Test.YtcpjalkonfjgbaaCheckRef
import Derived.Test.YtcpjalkonfjgbaaParts
import Derived.Test.YtcpjalkonfjgbaaHand
namespace Go.Proofs.Ytcpjalkonfjgbaa
open Go.RowKit

theorem own_later {B : Nat} {e : TypeId} {size n : Nat} {w v : World} {x : Value} {xs : List Value} (h : w.ownsRow B e size x n xs) (hb : Below w.heap.size w v) : v.ownsRow B e size x n xs :=
  own_only h (S := fun _ => False) (.of_below hb) (fun _ _ h => h)
theorem strOf_inj {a b : List Nat} (ha : ∀ x ∈ a, x < 256) (hb : ∀ x ∈ b, x < 256) (h : strOf a = strOf b) : a = b := by
  have h1 : a.map UInt8.ofNat = b.map UInt8.ofNat := by
    have h2 : (strOf a).data = (strOf b).data := by rw [h]
    simpa [strOf] using h2
  have h2 : ∀ l : List Nat, (∀ x ∈ l, x < 256) → (l.map UInt8.ofNat).map UInt8.toNat = l := by
    intro l hl
    rw [List.map_map]
    have : l.map (UInt8.toNat ∘ UInt8.ofNat) = l.map id := List.map_congr_left fun x hx => UInt8.toNat_ofNat_of_lt' (hl x hx)
    rw [this, List.map_id]
  rw [← h2 a ha, ← h2 b hb, h1]
theorem text_eq {a b : ByteArray} (h : a.toList = b.toList) : a = b := by
  rw [ByteArray.toList_eq, ByteArray.toList_eq] at h
  cases a
  cases b
  congr 1
  exact Array.toList_inj.1 h
theorem closed_iff {l : List Nat} {hi lo : Nat} (_ : hi < 256) (hl : lo < 256) : closed l = l ++ [hi, lo] ↔ more 65535 l = 256 * hi + lo := by
  unfold closed
  rw [List.append_cancel_left_eq]
  constructor
  · intro h
    injection h with h1 h2
    injection h2 with h2 _
    omega
  · intro h
    rw [h]
    congr 1
    · omega
    · congr 1
      omega

set_option maxHeartbeats 400000 in
theorem refopen_short (A : Option Addr) (n cap : Nat) (hn : n < 2) (w : World) :
    Calls Try.prog 12 #[.slice A n cap] w fun e w' => e = .returned (.tuple #[.slice none 0 0, .int .i64 8]) ∧ w = w' := by
  go_enter Try.func12, Try.ntmps12
  go_wp2
  exact bodyPost_ret (v := .tuple #[.slice none 0 0, .int .i64 8]) (by simp [results, Try.results12, go_sem]) rfl ⟨rfl, rfl⟩

set_option maxRecDepth 100000 in
set_option maxHeartbeats 1600000 in
theorem refopen_wrong {ad : Addr} {cap : Nat} {l : List Nat} (n hi lo : Nat) (hn : l.length = n) (hm : n ≤ 3000) (hc : n + 2 ≤ cap) (w : World) (hsrc : Src w (some ad) (bts (l ++ [hi, lo]))) (hb : ∀ b ∈ l, b < 256) (hh : hi < 256) (hl : lo < 256)
    (hs : more 65535 l ≠ 256 * hi + lo) :
    Calls Try.prog 12 #[.slice (some ad) (n + 2 : Nat) cap] w fun e w' => e = .returned (.tuple #[.slice none 0 0, .int .i64 13]) ∧ Below w.heap.size w w' := by
  have hs1 : Src w (some ad) (bts l) := (src_two hn hsrc).1
  have HC := Lib.hid (fun W (h : Src W (some ad) (bts l)) => refclose_any (cap := cap) n hn hm W h hb)
  have hb2 : ∀ b ∈ l ++ [hi, lo], b < 256 := by
    intro b hx
    simp only [List.mem_append, List.mem_cons, List.not_mem_nil, or_false] at hx
    rcases hx with hx | rfl | rfl
    · exact hb b hx
    · exact hh
    · exact hl
  have HK1 := Lib.hid (fun (W : World) (B : Nat) (x : Value) (h : W.ownsRow B 5 1 x (n + 2) (bts (closed l))) => conv_own h (closed_lt hb))
  have HK2 := Lib.hid (fun W (h : Below w.heap.size w W) => (by
    have h1 := conv_src (c := cap) (src_later hsrc h) hb2
    rw [List.length_append, hn] at h1
    exact h1 : (convert 23 9 (.slice (some ad) (n + 2) cap)).run Try.prog W = .ok (.string (strOf (l ++ [hi, lo]))) W))
  have hne : ((strOf (closed l)).toList == (strOf (l ++ [hi, lo])).toList) = false := by
    have h1 := closed_iff hh hl (l := l)
    rw [beq_eq_false_iff_ne]
    intro h2
    exact hs (h1.1 (strOf_inj (closed_lt hb) hb2 (text_eq h2)))
  have hnc : n ≤ cap := by omega
  have hnc' : (n : Int) ≤ (cap : Int) := by omega
  have hw0 : IntKind.i64.wrap (n : Int) = (n : Int) := by rw [IntKind.wrap_i64]; omega
  generalize strOf (closed l) = st1 at *
  generalize strOf (l ++ [hi, lo]) = st2 at *
  clear hsrc hb hb2 hn hs
  have hs1 := Lib.hid hs1
  go_enter Try.func12, Try.ntmps12
  go_wp2_with fail
  refine wp_of_frame [some (.slice (some ad) (n + 2) cap), none, none, none, none, none, none, none, none, none, none, none, none, none, none, none, none, none, none, none, none, none] (by
    simp only [Fr, Holes]
    repeat apply Exists.intro
    rfl) ?_
  intro a' hfr
  simp only [Fr, Holes] at hfr
  repeat (obtain ⟨_, hfr⟩ := hfr)
  refine wp_region_noPanic ?_
  refine wp_region_held_drew (S := fun W => Below w.heap.size w W) (by kernel_rfl) (bl_drew (Below.refl _ _)) (fun hS => ?_)
  refine take_at 0 7 (v := ?v0) (by simp only [List.getElem?_toArray, List.getElem?_cons_zero]; rfl) rfl (by kernel_rfl) (by kernel_rfl) (by kernel_rfl) (fun _ _ _ h => h) (Or.inl ⟨by rfl, ?y0⟩) hS ?_
  case y0 =>
    intro W hSW
    (try dsimp only at hSW)
    go_simp
    first | done | with_reducible rfl
  simp only [Act.put, List.setIfInBounds_toArray, List.set_cons_zero, List.set_cons_succ]
  refine take_at 1 8 (v := ?v1) (by simp only [List.getElem?_toArray, List.getElem?_cons_succ, List.getElem?_cons_zero]; rfl) rfl (by kernel_rfl) (by kernel_rfl) (by kernel_rfl) (fun _ _ _ h => h) (Or.inl ⟨by rfl, ?y1⟩) hS ?_
  case y1 =>
    intro W hSW
    (try dsimp only at hSW)
    go_simp
    first | done | with_reducible rfl
  simp only [Act.put, List.setIfInBounds_toArray, List.set_cons_zero, List.set_cons_succ]
  refine take_at 2 9 (v := ?v2) (by simp only [List.getElem?_toArray, List.getElem?_cons_succ, List.getElem?_cons_zero]; rfl) rfl (by kernel_rfl) (by kernel_rfl) (by kernel_rfl) (fun _ _ _ h => h) (Or.inl ⟨by rfl, ?y2⟩) hS ?_
  case y2 =>
    intro W hSW
    (try dsimp only at hSW)
    go_simp
    first | done | with_reducible rfl
  simp only [Act.put, List.setIfInBounds_toArray, List.set_cons_zero, List.set_cons_succ]
  refine take_at 3 10 (v := ?v3) (by simp only [List.getElem?_toArray, List.getElem?_cons_succ, List.getElem?_cons_zero]; rfl) rfl (by kernel_rfl) (by kernel_rfl) (by kernel_rfl) (fun _ _ _ h => h) (Or.inl ⟨by rfl, ?y3⟩) hS ?_
  case y3 =>
    intro W hSW
    (try dsimp only at hSW)
    go_simp
    first | done | with_reducible rfl
  simp only [Act.put, List.setIfInBounds_toArray, List.set_cons_zero, List.set_cons_succ]
  refine take_at 4 11 (v := ?v4) (by simp only [List.getElem?_toArray, List.getElem?_cons_succ, List.getElem?_cons_zero]; rfl) rfl (by kernel_rfl) (by kernel_rfl) (by kernel_rfl) (fun _ _ _ h => h) (Or.inl ⟨by rfl, ?y4⟩) hS ?_
  case y4 =>
    intro W hSW
    (try dsimp only at hSW)
    go_simp
    first | done | with_reducible rfl
  simp only [Act.put, List.setIfInBounds_toArray, List.set_cons_zero, List.set_cons_succ]
  refine take_at 7 14 (v := ?v7) (by simp only [List.getElem?_toArray, List.getElem?_cons_succ, List.getElem?_cons_zero]; rfl) rfl (by kernel_rfl) (by kernel_rfl) (by kernel_rfl) (fun _ _ _ h => h) (Or.inl ⟨by rfl, ?y7⟩) hS ?_
  case y7 =>
    intro W hSW
    (try dsimp only at hSW)
    go_simp
    first | done | with_reducible rfl
  simp only [Act.put, List.setIfInBounds_toArray, List.set_cons_zero, List.set_cons_succ]
  refine take_at 8 15 (v := ?v8) (by simp only [List.getElem?_toArray, List.getElem?_cons_succ, List.getElem?_cons_zero]; rfl) rfl (by kernel_rfl) (by kernel_rfl) (by kernel_rfl) (fun _ _ _ h => h) (Or.inl ⟨by rfl, ?y8⟩) hS ?_
  case y8 =>
    intro W hSW
    (try dsimp only at hSW)
    have z := HK2.out W hSW
    go_simp
    first | done | with_reducible rfl
  simp only [Act.put, List.setIfInBounds_toArray, List.set_cons_zero, List.set_cons_succ]
  refine wpAnyH_ready (rs := [5]) (by kernel_rfl) (by simp) ?_
  refine AllReadyH.cons rfl (fun K hK => ?_) AllReadyH.nil
  go_simp
  refine (HC.out _ (src_later hs1.out hS)).mono ?_
  rintro e v1 ⟨x, rfl, ho, h1⟩; have HO := Lib.hid ho; clear ho
  try go_simp
  refine hK.out _ _ (bl_step hS h1) (fun hS => ?_)
  clear hK K
  try simp only [Act.put, List.setIfInBounds_toArray, List.set_cons_zero, List.set_cons_succ]
  have hBv1 : Below w.heap.size w v1 := hS
  refine wpAnyH_more (S' := fun W => Below v1.heap.size v1 W) ?_ (fun _ h => bl_step hBv1 h)
  clear hS
  have hS : (fun W => Below v1.heap.size v1 W) v1 := Below.refl _ _
  refine take_at 6 13 (v := ?v6) (by simp only [List.getElem?_toArray, List.getElem?_cons_succ, List.getElem?_cons_zero]; rfl) rfl (by kernel_rfl) (by kernel_rfl) (by kernel_rfl) (fun _ _ _ h => h) (Or.inl ⟨by rfl, ?y6⟩) hS ?_
  case y6 =>
    intro W hSW
    (try dsimp only at hSW)
    have z := HK1.out _ _ _ (own_later HO.out hSW)
    go_simp
    first | done | with_reducible rfl
  simp only [Act.put, List.setIfInBounds_toArray, List.set_cons_zero, List.set_cons_succ]
  refine take_at 9 16 (v := ?v9) (by simp only [List.getElem?_toArray, List.getElem?_cons_succ, List.getElem?_cons_zero]; rfl) rfl (by kernel_rfl) (by kernel_rfl) (by kernel_rfl) (fun _ _ _ h => h) (Or.inl ⟨by rfl, ?y9⟩) hS ?_
  case y9 =>
    intro W hSW
    (try dsimp only at hSW)
    go_simp
    first | done | with_reducible rfl
  simp only [Act.put, List.setIfInBounds_toArray, List.set_cons_zero, List.set_cons_succ]
  refine wpAnyH_done (by kernel_rfl) ?_ _
  refine NoPanic.normal ?_
  go_wp2_with fail
  exact bodyPost_ret (v := .tuple #[.slice none 0 0, .int .i64 13]) (by simp [results, Try.results12, go_sem]) rfl ⟨rfl, hBv1⟩

set_option maxRecDepth 100000 in
set_option maxHeartbeats 1600000 in
theorem refopen_right {ad : Addr} {cap : Nat} {l : List Nat} (n hi lo : Nat) (hn : l.length = n) (hm : n ≤ 3000) (hc : n + 2 ≤ cap) (w : World) (hsrc : Src w (some ad) (bts (l ++ [hi, lo]))) (hb : ∀ b ∈ l, b < 256) (hh : hi < 256) (hl : lo < 256)
    (hs : more 65535 l = 256 * hi + lo) :
    Calls Try.prog 12 #[.slice (some ad) (n + 2 : Nat) cap] w fun e w' => e = .returned (.tuple #[.slice (some ad) n cap, .int .i64 0]) ∧ Below w.heap.size w w' := by
  have hs1 : Src w (some ad) (bts l) := (src_two hn hsrc).1
  have HC := Lib.hid (fun W (h : Src W (some ad) (bts l)) => refclose_any (cap := cap) n hn hm W h hb)
  have hb2 : ∀ b ∈ l ++ [hi, lo], b < 256 := by
    intro b hx
    simp only [List.mem_append, List.mem_cons, List.not_mem_nil, or_false] at hx
    rcases hx with hx | rfl | rfl
    · exact hb b hx
    · exact hh
    · exact hl
  have HK1 := Lib.hid (fun (W : World) (B : Nat) (x : Value) (h : W.ownsRow B 5 1 x (n + 2) (bts (closed l))) => conv_own h (closed_lt hb))
  have HK2 := Lib.hid (fun W (h : Below w.heap.size w W) => (by
    have h1 := conv_src (c := cap) (src_later hsrc h) hb2
    rw [List.length_append, hn] at h1
    exact h1 : (convert 23 9 (.slice (some ad) (n + 2) cap)).run Try.prog W = .ok (.string (strOf (l ++ [hi, lo]))) W))
  have hne : ((strOf (closed l)).toList == (strOf (l ++ [hi, lo])).toList) = true := by
    have h1 := closed_iff hh hl (l := l)
    rw [h1.2 hs]
    simp
  have hnc : n ≤ cap := by omega
  have hnc' : (n : Int) ≤ (cap : Int) := by omega
  have hw0 : IntKind.i64.wrap (n : Int) = (n : Int) := by rw [IntKind.wrap_i64]; omega
  generalize strOf (closed l) = st1 at *
  generalize strOf (l ++ [hi, lo]) = st2 at *
  clear hsrc hb hb2 hn hs
  have hs1 := Lib.hid hs1
  go_enter Try.func12, Try.ntmps12
  go_wp2_with fail
  refine wp_of_frame [some (.slice (some ad) (n + 2) cap), none, none, none, none, none, none, none, none, none, none, none, none, none, none, none, none, none, none, none, none, none] (by
    simp only [Fr, Holes]
    repeat apply Exists.intro
    rfl) ?_
  intro a' hfr
  simp only [Fr, Holes] at hfr
  repeat (obtain ⟨_, hfr⟩ := hfr)
  refine wp_region_noPanic ?_
  refine wp_region_held_drew (S := fun W => Below w.heap.size w W) (by kernel_rfl) (bl_drew (Below.refl _ _)) (fun hS => ?_)
  refine take_at 0 7 (v := ?v0) (by simp only [List.getElem?_toArray, List.getElem?_cons_zero]; rfl) rfl (by kernel_rfl) (by kernel_rfl) (by kernel_rfl) (fun _ _ _ h => h) (Or.inl ⟨by rfl, ?y0⟩) hS ?_
  case y0 =>
    intro W hSW
    (try dsimp only at hSW)
    go_simp
    first | done | with_reducible rfl
  simp only [Act.put, List.setIfInBounds_toArray, List.set_cons_zero, List.set_cons_succ]
  refine take_at 1 8 (v := ?v1) (by simp only [List.getElem?_toArray, List.getElem?_cons_succ, List.getElem?_cons_zero]; rfl) rfl (by kernel_rfl) (by kernel_rfl) (by kernel_rfl) (fun _ _ _ h => h) (Or.inl ⟨by rfl, ?y1⟩) hS ?_
  case y1 =>
    intro W hSW
    (try dsimp only at hSW)
    go_simp
    first | done | with_reducible rfl
  simp only [Act.put, List.setIfInBounds_toArray, List.set_cons_zero, List.set_cons_succ]
  refine take_at 2 9 (v := ?v2) (by simp only [List.getElem?_toArray, List.getElem?_cons_succ, List.getElem?_cons_zero]; rfl) rfl (by kernel_rfl) (by kernel_rfl) (by kernel_rfl) (fun _ _ _ h => h) (Or.inl ⟨by rfl, ?y2⟩) hS ?_
  case y2 =>
    intro W hSW
    (try dsimp only at hSW)
    go_simp
    first | done | with_reducible rfl
  simp only [Act.put, List.setIfInBounds_toArray, List.set_cons_zero, List.set_cons_succ]
  refine take_at 3 10 (v := ?v3) (by simp only [List.getElem?_toArray, List.getElem?_cons_succ, List.getElem?_cons_zero]; rfl) rfl (by kernel_rfl) (by kernel_rfl) (by kernel_rfl) (fun _ _ _ h => h) (Or.inl ⟨by rfl, ?y3⟩) hS ?_
  case y3 =>
    intro W hSW
    (try dsimp only at hSW)
    go_simp
    first | done | with_reducible rfl
  simp only [Act.put, List.setIfInBounds_toArray, List.set_cons_zero, List.set_cons_succ]
  refine take_at 4 11 (v := ?v4) (by simp only [List.getElem?_toArray, List.getElem?_cons_succ, List.getElem?_cons_zero]; rfl) rfl (by kernel_rfl) (by kernel_rfl) (by kernel_rfl) (fun _ _ _ h => h) (Or.inl ⟨by rfl, ?y4⟩) hS ?_
  case y4 =>
    intro W hSW
    (try dsimp only at hSW)
    go_simp
    first | done | with_reducible rfl
  simp only [Act.put, List.setIfInBounds_toArray, List.set_cons_zero, List.set_cons_succ]
  refine take_at 7 14 (v := ?v7) (by simp only [List.getElem?_toArray, List.getElem?_cons_succ, List.getElem?_cons_zero]; rfl) rfl (by kernel_rfl) (by kernel_rfl) (by kernel_rfl) (fun _ _ _ h => h) (Or.inl ⟨by rfl, ?y7⟩) hS ?_
  case y7 =>
    intro W hSW
    (try dsimp only at hSW)
    go_simp
    first | done | with_reducible rfl
  simp only [Act.put, List.setIfInBounds_toArray, List.set_cons_zero, List.set_cons_succ]
  refine take_at 8 15 (v := ?v8) (by simp only [List.getElem?_toArray, List.getElem?_cons_succ, List.getElem?_cons_zero]; rfl) rfl (by kernel_rfl) (by kernel_rfl) (by kernel_rfl) (fun _ _ _ h => h) (Or.inl ⟨by rfl, ?y8⟩) hS ?_
  case y8 =>
    intro W hSW
    (try dsimp only at hSW)
    have z := HK2.out W hSW
    go_simp
    first | done | with_reducible rfl
  simp only [Act.put, List.setIfInBounds_toArray, List.set_cons_zero, List.set_cons_succ]
  refine wpAnyH_ready (rs := [5]) (by kernel_rfl) (by simp) ?_
  refine AllReadyH.cons rfl (fun K hK => ?_) AllReadyH.nil
  go_simp
  refine (HC.out _ (src_later hs1.out hS)).mono ?_
  rintro e v1 ⟨x, rfl, ho, h1⟩; have HO := Lib.hid ho; clear ho
  try go_simp
  refine hK.out _ _ (bl_step hS h1) (fun hS => ?_)
  clear hK K
  try simp only [Act.put, List.setIfInBounds_toArray, List.set_cons_zero, List.set_cons_succ]
  have hBv1 : Below w.heap.size w v1 := hS
  refine wpAnyH_more (S' := fun W => Below v1.heap.size v1 W) ?_ (fun _ h => bl_step hBv1 h)
  clear hS
  have hS : (fun W => Below v1.heap.size v1 W) v1 := Below.refl _ _
  refine take_at 6 13 (v := ?v6) (by simp only [List.getElem?_toArray, List.getElem?_cons_succ, List.getElem?_cons_zero]; rfl) rfl (by kernel_rfl) (by kernel_rfl) (by kernel_rfl) (fun _ _ _ h => h) (Or.inl ⟨by rfl, ?y6⟩) hS ?_
  case y6 =>
    intro W hSW
    (try dsimp only at hSW)
    have z := HK1.out _ _ _ (own_later HO.out hSW)
    go_simp
    first | done | with_reducible rfl
  simp only [Act.put, List.setIfInBounds_toArray, List.set_cons_zero, List.set_cons_succ]
  refine take_at 9 16 (v := ?v9) (by simp only [List.getElem?_toArray, List.getElem?_cons_succ, List.getElem?_cons_zero]; rfl) rfl (by kernel_rfl) (by kernel_rfl) (by kernel_rfl) (fun _ _ _ h => h) (Or.inl ⟨by rfl, ?y9⟩) hS ?_
  case y9 =>
    intro W hSW
    (try dsimp only at hSW)
    go_simp
    first | done | with_reducible rfl
  simp only [Act.put, List.setIfInBounds_toArray, List.set_cons_zero, List.set_cons_succ]
  refine wpAnyH_done (by kernel_rfl) ?_ _
  refine NoPanic.normal ?_
  go_wp2_with fail
  exact bodyPost_ret (v := .tuple #[.slice (some ad) n cap, .int .i64 0]) (by simp [results, Try.results12, go_sem]) rfl ⟨rfl, hBv1⟩

theorem src_some {w : World} {A : Option Addr} {l : List Nat} (h : Src w A (bts l)) (h0 : 0 < l.length) : ∃ ad, A = some ad := by
  obtain ⟨ad, hA, _⟩ := h (by rw [length_bts]; exact h0)
  exact ⟨ad, hA⟩
theorem conv_nil (w : World) : (convert 23 9 (.slice none 0 0)).run Try.prog w = .ok (.string (strOf [])) w :=
  run_convert_bytes_nil w 23 5 Try.underlying23 Try.underlying5 0 0 9 Try.underlying9
theorem split_two {l : List Nat} (h : 2 ≤ l.length) : ∃ k hi lo, l = k ++ [hi, lo] := by
  refine ⟨l.take (l.length - 2), l[l.length - 2], l[l.length - 1], ?_⟩
  have h1 : l.drop (l.length - 2) = [l[l.length - 2], l[l.length - 1]] := by
    rw [List.drop_eq_getElem_cons (by omega), List.drop_eq_getElem_cons (by omega), List.drop_eq_nil_of_le (by omega)]
    congr 2
    simp only [show l.length - 2 + 1 = l.length - 1 by omega]
  rw [← h1, List.take_append_drop]

/-- what Open answers: of the code and of the document: one text, one error -/
theorem both_open {l : List Nat} (N : Nat) (hN : l.length = N) (h3 : N ≤ 3000) (hb : ∀ b ∈ l, b < 256) : ∃ (S : ByteArray) (er : Int),
    (∀ W A cap, N ≤ cap → Src W A (bts l) → Calls Try.prog 11 #[.slice A N cap] W fun e w' => ∃ x, e = .returned (.tuple #[x, .int .i64 er]) ∧ Below W.heap.size W w' ∧ ∀ W', Below w'.heap.size w' W' → (convert 23 9 x).run Try.prog W' = .ok (.string S) W') ∧
    (∀ W A cap, N ≤ cap → Src W A (bts l) → Calls Try.prog 12 #[.slice A N cap] W fun e w' => ∃ x, e = .returned (.tuple #[x, .int .i64 er]) ∧ Below W.heap.size W w' ∧ ∀ W', Below w'.heap.size w' W' → (convert 23 9 x).run Try.prog W' = .ok (.string S) W') := by
  rcases Nat.lt_or_ge N 2 with h2 | h2
  · refine ⟨strOf [], 8, fun W A cap _ _ => (open_short A N cap h2 W).mono ?_, fun W A cap _ _ => (refopen_short A N cap h2 W).mono ?_⟩
    all_goals
      rintro e w' ⟨rfl, rfl⟩
      exact ⟨_, rfl, Below.refl _ _, fun W' _ => conv_nil W'⟩
  · obtain ⟨k, hi, lo, rfl⟩ := split_two (l := l) (by omega)
    obtain ⟨n, rfl⟩ : ∃ n, N = n + 2 := ⟨N - 2, by omega⟩
    have hk : k.length = n := by simp at hN; omega
    have hbk : ∀ b ∈ k, b < 256 := fun b hx => hb b (List.mem_append_left _ hx)
    have hh : hi < 256 := hb hi (by simp)
    have hl : lo < 256 := hb lo (by simp)
    by_cases hs : more 65535 k = 256 * hi + lo
    · refine ⟨strOf k, 0, fun W A cap hc hsr => ?_, fun W A cap hc hsr => ?_⟩
      · obtain ⟨ad, rfl⟩ := src_some hsr (by omega)
        refine (open_right n hi lo hk (by omega) hc W hsr hbk hh hl hs).mono ?_
        rintro e w' ⟨g, rfl, _, hr, hbl⟩
        refine ⟨_, rfl, hbl, fun W' hb' => ?_⟩
        have h9 := conv_src (c := n) (row_src (hr.later hb')) hbk
        rw [hk] at h9
        exact h9
      · obtain ⟨ad, rfl⟩ := src_some hsr (by omega)
        refine (refopen_right n hi lo hk (by omega) hc W hsr hbk hh hl hs).mono ?_
        rintro e w' ⟨rfl, hbl⟩
        refine ⟨_, rfl, hbl, fun W' hb' => ?_⟩
        have h9 := conv_src (c := cap) (src_later (src_two hk hsr).1 (bl_step hbl hb')) hbk
        rw [hk] at h9
        exact h9
    · refine ⟨strOf [], 13, fun W A cap hc hsr => ?_, fun W A cap hc hsr => ?_⟩
      · obtain ⟨ad, rfl⟩ := src_some hsr (by omega)
        refine (open_wrong n hi lo hk (by omega) hc W hsr hbk hh hl hs).mono ?_
        rintro e w' ⟨rfl, hbl⟩
        exact ⟨_, rfl, hbl, fun W' _ => conv_nil W'⟩
      · obtain ⟨ad, rfl⟩ := src_some hsr (by omega)
        refine (refopen_wrong n hi lo hk (by omega) hc W hsr hbk hh hl hs).mono ?_
        rintro e w' ⟨rfl, hbl⟩
        exact ⟨_, rfl, hbl, fun W' _ => conv_nil W'⟩
end Go.Proofs.Ytcpjalkonfjgbaa
