/-
  A packet's bytes: the document's answer.
-/
import Derived.Test.YtdklddpkklodnaaRefSize
import Derived.Test.YtdklddpkklodnaaFldWrite
import Derived.Test.YtdklddpkklodnaaLensRefWrite
namespace Go.Proofs.Ytdklddpkklodnaa
open Go.RowKit


theorem okn_case {P : Prop} (wd sn : Int) (h0 : okn wd sn = false → P) (h1 : okn wd sn = true → P) : P := by
  cases h : okn wd sn
  · exact h0 h
  · exact h1 h
set_option maxRecDepth 100000 in
set_option maxHeartbeats 1600000 in
theorem drsize_any {A : Option Addr} {L : List RowB} (fi sn wd : Int) (n cap : Nat) (w : World) (hL : L.length = n) (hn : n ≤ 40) (hsum : (lens L).sum ≤ 9000) (hs : RSrc w A L) :
    Calls Try.prog 13 #[.agg #[.int .i64 fi, .int .i64 sn, .slice A n cap], .int .i64 wd] w fun e w' => e = .returned (.int .i64 (umdF fi sn (lens L) wd)) ∧ Below w.heap.size w w' := by
  have HI := Lib.hid (fun W => ris_any wd sn W)
  by_cases hw : wd = 5 ∨ wd = 10
  · have hd1 : 0 ≤ wd / 5 ∧ wd / 5 ≤ 5 := by rcases hw with rfl | rfl <;> decide
    have hbool : ((wd != 5) && (wd != 10)) = false := by rcases hw with rfl | rfl <;> decide
    have HFI := Lib.hid (fun W (hb : Below w.heap.size w W) => rfields_any (A := A) n cap (wd / 5) 11 W hL hn hsum hd1.1 hd1.2 (hs.later hb))
    have hF : umdF fi sn (lens L) wd = if 0 ≤ fi ∧ fi ≤ 3 ∧ okn wd sn = true then fieldsF (lens L) (wd / 5) 11 else 0 := by
      unfold umdF
      by_cases h : 0 ≤ fi ∧ fi ≤ 3 ∧ okn wd sn = true
      · rw [if_pos ⟨hw, h⟩, if_pos h]
      · rw [if_neg (fun h2 => h h2.2), if_neg h]
    generalize fieldsF (lens L) (wd / 5) 11 = z at *
    generalize umdF fi sn (lens L) wd = F at *
    clear hs hsum hL hd1
    have main : ∀ (wd : Int), (wd = 5 ∨ wd = 10) → True := fun _ _ => trivial
    clear main
    rcases hw with rfl | rfl
    · clear hbool
      rcases Decidable.em (fi < 0) with hfi | hfi
      · have HF := Lib.hid (show F = 0 by rw [hF, if_neg (by omega)])
        clear hF
        go_enter Try.func13, Try.ntmps13
        go_wp2
        go_ret
        exact ⟨ret_int (by rw [HF.out]), bl_alloc (Below.refl _ _) _⟩
      · rcases Decidable.em (3 < fi) with hfi2 | hfi2
        · have HF := Lib.hid (show F = 0 by rw [hF, if_neg (by omega)])
          clear hF
          go_enter Try.func13, Try.ntmps13
          go_wp2
          go_ret
          exact ⟨ret_int (by rw [HF.out]), bl_alloc (Below.refl _ _) _⟩
        · cases hi : okn 5 sn
          · have HF := Lib.hid (show F = 0 by rw [hF, if_neg (by rw [hi]; simp)])
            rw [hi] at HI
            clear hF hi
            go_enter Try.func13, Try.ntmps13
            go_wp2_with (go_at_call 38; refine (HI.out _).mono ?_; rintro e w3 ⟨rfl, rfl⟩)
            go_ret
            exact ⟨ret_int (by rw [HF.out]), bl_alloc (Below.refl _ _) _⟩
          · have HF := Lib.hid (show F = z by rw [hF, if_pos ⟨by omega, by omega, hi⟩])
            rw [hi] at HI
            clear hF hi
            go_enter Try.func13, Try.ntmps13
            go_wp2_with (first
              | (go_at_call 38; refine (HI.out _).mono ?_; rintro e w3 ⟨rfl, rfl⟩)
              | (go_at_call 39; refine (HFI.out _ (bl_alloc (Below.refl _ _) _)).mono ?_; rintro e w4 ⟨rfl, rfl⟩))
            go_ret
            exact ⟨ret_int (by rw [HF.out]), bl_alloc (Below.refl _ _) _⟩
    · clear hbool
      rcases Decidable.em (fi < 0) with hfi | hfi
      · have HF := Lib.hid (show F = 0 by rw [hF, if_neg (by omega)])
        clear hF
        go_enter Try.func13, Try.ntmps13
        go_wp2
        go_ret
        exact ⟨ret_int (by rw [HF.out]), bl_alloc (Below.refl _ _) _⟩
      · rcases Decidable.em (3 < fi) with hfi2 | hfi2
        · have HF := Lib.hid (show F = 0 by rw [hF, if_neg (by omega)])
          clear hF
          go_enter Try.func13, Try.ntmps13
          go_wp2
          go_ret
          exact ⟨ret_int (by rw [HF.out]), bl_alloc (Below.refl _ _) _⟩
        · cases hi : okn 10 sn
          · have HF := Lib.hid (show F = 0 by rw [hF, if_neg (by rw [hi]; simp)])
            rw [hi] at HI
            clear hF hi
            go_enter Try.func13, Try.ntmps13
            go_wp2_with (go_at_call 38; refine (HI.out _).mono ?_; rintro e w3 ⟨rfl, rfl⟩)
            go_ret
            exact ⟨ret_int (by rw [HF.out]), bl_alloc (Below.refl _ _) _⟩
          · have HF := Lib.hid (show F = z by rw [hF, if_pos ⟨by omega, by omega, hi⟩])
            rw [hi] at HI
            clear hF hi
            go_enter Try.func13, Try.ntmps13
            go_wp2_with (first
              | (go_at_call 38; refine (HI.out _).mono ?_; rintro e w3 ⟨rfl, rfl⟩)
              | (go_at_call 39; refine (HFI.out _ (bl_alloc (Below.refl _ _) _)).mono ?_; rintro e w4 ⟨rfl, rfl⟩))
            go_ret
            exact ⟨ret_int (by rw [HF.out]), bl_alloc (Below.refl _ _) _⟩
  · have HF := Lib.hid (show umdF fi sn (lens L) wd = 0 by unfold umdF; rw [if_neg (fun h => hw h.1)])
    have h5 : (wd != 5) = true := by simp; omega
    have h10 : (wd != 10) = true := by simp; omega
    generalize umdF fi sn (lens L) wd = F at *
    clear hs hsum hL hw
    go_enter Try.func13, Try.ntmps13
    go_wp2
    go_ret
    exact ⟨ret_int (by rw [HF.out]), bl_alloc (Below.refl _ _) _⟩

/-- the lengths of all but the last, in a list of the call's own -/
theorem insN_take_succ {ls : List Nat} {k m : Nat} (h : ls[k]? = some m) : insN (ls.take (k + 1)) = insN (ls.take k) ++ [.int .i64 m] := by
  obtain ⟨hk, rfl⟩ := List.getElem?_eq_some_iff.1 h
  rw [List.take_succ_eq_append_getElem hk]
  simp only [insN, List.map_append, List.map_cons, List.map_nil]
theorem rlens_write {A : Option Addr} {l : List Nat} (wd n cap : Nat) (wi : Int) (w : World) (h : wd = 11 ∨ wd = 15) (e : wi = wd) (hn : l.length = n) (h0 : 1 ≤ n) (h23 : n ≤ 23) (hl : ∀ x ∈ l, 1 ≤ x ∧ x < 2048) (hs : Src w A (insN l)) :
    Calls Try.prog 85 #[.slice A n cap, .int .i64 wi] w fun e w' => ∃ (A' : Option Addr) (c' k : Nat), e = .returned (.tuple #[.slice A' k c', .int .i64 0]) ∧ k = (pack (wbl wd l)).length ∧ OwnY w.heap.size w' (.slice A' k c') (pack (wbl wd l)) ∧ Below w.heap.size w w' := by
  subst e
  have hf : ∀ q : Nat, (q = 11 ∨ q = 15) → faultF (l.map (fun n : Nat => (n : Int))) q = 0 := fun q hq => by
    unfold faultF
    rw [List.length_map, hn, if_neg (by omega), if_neg (by omega), if_pos]
    rw [List.all_eq_true]
    intro x hx
    rw [List.mem_map] at hx
    obtain ⟨y, hy, rfl⟩ := hx
    have := hl y hy
    unfold mayL
    rw [decide_eq_true (by omega), decide_eq_true (by rcases hq with rfl | rfl <;> simp <;> omega)]
    rfl
  have hm : (l.map (fun n : Nat => (n : Int))).map Int.toNat = l := by
    rw [List.map_map]
    have : l.map (Int.toNat ∘ fun n : Nat => (n : Int)) = l.map id := List.map_congr_left fun x _ => by show ((x : Int)).toNat = x; omega
    rw [this, List.map_id]
  have hsi : Src w A (ins (l.map (fun n : Nat => (n : Int)))) := hs
  have fin : ∀ q : Nat, q = wd → ∀ e w', (((faultF (l.map (fun n : Nat => (n : Int))) q = 0 ∧ ∃ x, e = Ending.returned (.tuple #[x, .int .i64 0]) ∧ w'.ownsRow w.heap.size 5 1 x (packLen (n * (q + 1))) (bts (pack (wbl q ((l.map (fun n : Nat => (n : Int))).map Int.toNat))))) ∨ (faultF (l.map (fun n : Nat => (n : Int))) q ≠ 0 ∧ e = .returned (.tuple #[.slice none 0 0, .int .i64 (faultF (l.map (fun n : Nat => (n : Int))) q)]))) ∧ Below w.heap.size w w') → ∃ (A' : Option Addr) (c' k : Nat), e = .returned (.tuple #[.slice A' k c', .int .i64 0]) ∧ k = (pack (wbl wd l)).length ∧ OwnY w.heap.size w' (.slice A' k c') (pack (wbl wd l)) ∧ Below w.heap.size w w' := by
    rintro q rfl e w' ⟨h1 | h1, hb⟩
    · obtain ⟨_, x, rfl, ho⟩ := h1
      rw [hm] at ho
      have hpl : (pack (wbl q l)).length = packLen (n * (q + 1)) := by rw [length_pack, length_wbl, hn]
      have hoy : OwnY w.heap.size w' x (pack (wbl q l)) := by unfold OwnY; rw [hpl]; exact ho
      obtain ⟨A', c', rfl, _⟩ := hoy.form
      exact ⟨A', c', _, rfl, rfl, hoy, hb⟩
    · exact absurd (hf q h) h1.1
  rcases h with rfl | rfl
  · exact (refwrite_11 n cap w (by rw [List.length_map]; exact hn) (by unfold maxLen; omega) hsi).mono fun e w' h => fin 11 rfl e w' h
  · exact (refwrite_15 n cap w (by rw [List.length_map]; exact hn) (by unfold maxLen; omega) hsi).mono fun e w' h => fin 15 rfl e w' h

theorem app_bytes2 {B : Nat} {W : World} {A0 A : Option Addr} {c0 m c n : Nat} {l y : List Nat} (hv : OwnY B W (.slice A0 n c0) l) (hn : l.length = n) (hB : B ≤ W.heap.size) (hs : Src W A (bts y)) (hm : y.length = m) (hlm : n + m ≤ 1000000000) :
    ∃ A' c' W', (Builtin.append_ #[30, 30] 30 #[.slice A0 n c0, .slice A m c]).run Try.prog W = .ok (.slice A' (n + m) c') W' ∧ OwnY B W' (.slice A' (n + m) c') (l ++ y) ∧ (l ++ y).length = n + m ∧ Below B W W' := by
  obtain ⟨A', c', W', h1, h2, h3, _, _⟩ := app_bytes m c hv hB hs hm (by omega)
  rw [hn] at h1 h2
  exact ⟨A', c', W', h1, h2, by rw [List.length_append, hn, hm], h3⟩
end Go.Proofs.Ytdklddpkklodnaa
