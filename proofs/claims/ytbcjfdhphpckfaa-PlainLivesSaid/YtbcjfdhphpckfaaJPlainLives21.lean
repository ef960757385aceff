/-
  cut: which queue may be; fields and numbers of texts in memory while a piece is built. Bytes cut into fields of a call's own: the loop.
-/
import Derived.Test.YtbcjfdhphpckfaaJPlainLives20
import Derived.Test.YtbcjfdhphpckfaaJPlainLives16
import Derived.Test.YtbcjfdhphpckfaaJPlainLives09
import Derived.DataElems
namespace Go.Proofs.Ytbcjfdhphpckfaa
open Go.RowKit

/-- no text has the number 0 -/
theorem disc_zero {ts : List Txt} (h : ∀ t ∈ ts, 1 ≤ t.id) : discE 0 ts = 4 ∧ discF 0 ts = ts := by
  have hp : placeF 0 ts = ts.length := by
    unfold placeF
    rw [List.findIdx_eq_length]
    intro y hy
    have := h y hy
    simp
    omega
  unfold discE discF
  rw [hp, List.getElem?_eq_none (Nat.le_refl _)]
  exact ⟨rfl, rfl⟩
section
variable {B p last : Nat} {R : Int} {ts : List Txt} {w : World}
set_option maxHeartbeats 400000 in
theorem cmade_any (h : QRep B w p R last ts) (hr : 0 < R) (hn : ts.length ≤ 900) (hid : ∀ t ∈ ts, 1 ≤ t.id) :
    Calls Try.prog 182 #[.pointer (some ⟨p, 0, none⟩)] w fun e w' => e = .returned (.bool true) ∧ QRep B w' p R last ts ∧ QOnly B w w' := by
  have HD := discard_any 0 h hr hn
  obtain ⟨e1, e2⟩ := disc_zero hid
  rw [e1, e2] at HD
  have HD : Hid (Calls Try.prog 19 #[.pointer (some ⟨p, 0, none⟩), .int .u64 0] w fun e w' => e = .returned (.int .i64 4) ∧ QRep B w' p R last ts ∧ QOnly B w w') := Lib.hid HD
  clear h hid e1 e2
  go_enter Try.func182, Try.ntmps182
  go_wp2_with (go_at_call 19; (with_reducible refine HD.out.mono ?_); rintro e w1 ⟨rfl, hq, ho⟩; (have H1 := Lib.hid hq; have H2 := Lib.hid ho; clear hq ho))
  go_ret
  exact ⟨rfl, H1.out, H2.out⟩
set_option maxHeartbeats 400000 in
theorem cmade_nil (w : World) : Calls Try.prog 182 #[.pointer none] w fun e w' => e = .returned (.bool false) ∧ w = w' := by
  have HD := Lib.hid (discard_nil 0 w)
  go_enter Try.func182, Try.ntmps182
  go_wp2_with (go_at_call 19; (with_reducible refine HD.out.mono ?_); rintro e w1 ⟨rfl, rfl⟩)
  go_ret
  exact ⟨rfl, rfl⟩
set_option maxHeartbeats 400000 in
theorem cmade_zero {a b : Value} (h : Row w p 51 #[.int .i64 0, a, b]) : Calls Try.prog 182 #[.pointer (some ⟨p, 0, none⟩)] w fun e w' => e = .returned (.bool false) ∧ w = w' := by
  have HD := Lib.hid (discard_zero 0 h)
  clear h
  go_enter Try.func182, Try.ntmps182
  go_wp2_with (go_at_call 19; (with_reducible refine HD.out.mono ?_); rintro e w1 ⟨rfl, rfl⟩)
  go_ret
  exact ⟨rfl, rfl⟩
/-- what is wrong with a room and a width -/
def faultC (room x : Int) : Int := if 0 < sizeF 1 x then (if room < 0 ∨ 4000 < room then 1 else 0) else 9
set_option maxHeartbeats 800000 in
theorem cfault_any (room x : Int) (h : QRep B w p R last ts) (hr : 0 < R) (hn : ts.length ≤ 900) (hid : ∀ t ∈ ts, 1 ≤ t.id) :
    Calls Try.prog 114 #[.pointer (some ⟨p, 0, none⟩), .int .i64 room, .int .i64 x] w fun e w' => e = .returned (.int .i64 (faultC room x)) ∧ QRep B w' p R last ts ∧ QOnly B w w' := by
  have HM := Lib.hid (cmade_any h hr hn hid)
  have HB := Lib.hid (fun W => cutmay_any x W)
  clear h hid
  by_cases hp : 0 < sizeF 1 x
  · have HB2 := Lib.hid (fun W => (by have h := HB.out W; rw [decide_eq_true hp] at h; exact h : Calls Try.prog 119 #[.int .i64 x] W fun e w' => e = .returned (.bool true) ∧ W = w'))
    have HF := Lib.hid (show faultC room x = if room < 0 ∨ 4000 < room then 1 else 0 by unfold faultC; rw [if_pos hp])
    rw [HF.out]
    clear HB hp HF
    by_cases h0 : room < 0
    · rw [if_pos (.inl h0)]
      go_enter Try.func114, Try.ntmps114
      go_wp2_with (first
        | (go_at_call 182; (with_reducible refine HM.out.mono ?_); rintro e w1 ⟨rfl, hq, ho⟩; (have H1 := Lib.hid hq; have H2 := Lib.hid ho; clear hq ho))
        | (go_at_call 119; (with_reducible refine (HB2.out _).mono ?_); rintro e w2 ⟨rfl, rfl⟩))
      go_ret
      exact ⟨rfl, H1.out, H2.out⟩
    · by_cases h1 : 4000 < room
      · rw [if_pos (.inr h1)]
        go_enter Try.func114, Try.ntmps114
        go_wp2_with (first
          | (go_at_call 182; (with_reducible refine HM.out.mono ?_); rintro e w1 ⟨rfl, hq, ho⟩; (have H1 := Lib.hid hq; have H2 := Lib.hid ho; clear hq ho))
          | (go_at_call 119; (with_reducible refine (HB2.out _).mono ?_); rintro e w2 ⟨rfl, rfl⟩))
        go_ret
        exact ⟨rfl, H1.out, H2.out⟩
      · rw [if_neg (by omega)]
        go_enter Try.func114, Try.ntmps114
        go_wp2_with (first
          | (go_at_call 182; (with_reducible refine HM.out.mono ?_); rintro e w1 ⟨rfl, hq, ho⟩; (have H1 := Lib.hid hq; have H2 := Lib.hid ho; clear hq ho))
          | (go_at_call 119; (with_reducible refine (HB2.out _).mono ?_); rintro e w2 ⟨rfl, rfl⟩))
        go_ret
        exact ⟨rfl, H1.out, H2.out⟩
  · have HB2 := Lib.hid (fun W => (by have h := HB.out W; rw [decide_eq_false hp] at h; exact h : Calls Try.prog 119 #[.int .i64 x] W fun e w' => e = .returned (.bool false) ∧ W = w'))
    have HF := Lib.hid (show faultC room x = 9 by unfold faultC; rw [if_neg hp])
    rw [HF.out]
    clear HB hp HF
    go_enter Try.func114, Try.ntmps114
    go_wp2_with (first
      | (go_at_call 182; (with_reducible refine HM.out.mono ?_); rintro e w1 ⟨rfl, hq, ho⟩; (have H1 := Lib.hid hq; have H2 := Lib.hid ho; clear hq ho))
      | (go_at_call 119; (with_reducible refine (HB2.out _).mono ?_); rintro e w2 ⟨rfl, rfl⟩))
    go_ret
    exact ⟨rfl, H1.out, H2.out⟩
set_option maxHeartbeats 400000 in
theorem cfault_nil (room x : Int) (w : World) : Calls Try.prog 114 #[.pointer none, .int .i64 room, .int .i64 x] w fun e w' => e = .returned (.int .i64 6) ∧ w = w' := by
  have HM := Lib.hid (cmade_nil w)
  go_enter Try.func114, Try.ntmps114
  go_wp2_with (go_at_call 182; (with_reducible refine HM.out.mono ?_); rintro e w1 ⟨rfl, rfl⟩)
  go_ret
  exact ⟨rfl, rfl⟩
set_option maxHeartbeats 400000 in
theorem cfault_zero {a b : Value} (room x : Int) (h : Row w p 51 #[.int .i64 0, a, b]) : Calls Try.prog 114 #[.pointer (some ⟨p, 0, none⟩), .int .i64 room, .int .i64 x] w fun e w' => e = .returned (.int .i64 6) ∧ w = w' := by
  have HM := Lib.hid (cmade_zero h)
  clear h
  go_enter Try.func114, Try.ntmps114
  go_wp2_with (go_at_call 182; (with_reducible refine HM.out.mono ?_); rintro e w1 ⟨rfl, rfl⟩)
  go_ret
  exact ⟨rfl, rfl⟩
end
theorem cclipu_any {A : Option Addr} (n c : Nat) (w : World) (hc : n ≤ c) : Calls Try.prog 117 #[.slice A n c] w fun e w' => e = .returned (.slice A n n) ∧ w = w' := by
  cases A with
  | none =>
    go_enter Try.func117, Try.ntmps117
    go_wp2
    go_ret
    exact ⟨rfl, rfl⟩
  | some a =>
    go_enter Try.func117, Try.ntmps117
    go_wp2
    go_ret
    exact ⟨rfl, rfl⟩
theorem cclipr_any {A : Option Addr} (n c : Nat) (w : World) (hc : n ≤ c) : Calls Try.prog 116 #[.slice A n c] w fun e w' => e = .returned (.slice A n n) ∧ w = w' := by
  cases A with
  | none =>
    go_enter Try.func116, Try.ntmps116
    go_wp2
    go_ret
    exact ⟨rfl, rfl⟩
  | some a =>
    go_enter Try.func116, Try.ntmps116
    go_wp2
    go_ret
    exact ⟨rfl, rfl⟩
/-- fields in memory that is not older than block m -/
def RowNew (m : Nat) (w : World) (r : RowB) : Prop := ∃ g, r.A = some ⟨g, 0, none⟩ ∧ m ≤ g ∧ QBytes w g r.bs ∧ r.cap = r.bs.length ∧ 0 < r.bs.length ∧ r.bs.length ≤ 100000 ∧ ∀ b ∈ r.bs, b < 256
def NewRows (m : Nat) (w : World) (v : Value) (L : List RowB) : Prop := w.ownsRow m 34 1 v L.length (L.map RowB.v) ∧ ∀ r ∈ L, RowNew m w r
def idsV (l : List Nat) : List Value := l.map fun i : Nat => .int .u64 i
def NewIds (m : Nat) (w : World) (v : Value) (l : List Nat) : Prop := w.ownsRow m 37 1 v l.length (idsV l)
section
variable {m : Nat} {w v : World} {x : Value} {L : List RowB} {l : List Nat}
theorem QBytes.inside {g : Nat} {l : List Nat} (h : QBytes w g l) : g < w.heap.size := by
  obtain ⟨cs, h1, _⟩ := h
  exact h1.inside
theorem QBytes.only {S : Nat → Prop} {g : Nat} {l : List Nat} (h : QBytes w g l) (ho : Only S w v) (hg : ¬ S g) : QBytes v g l := by
  obtain ⟨cs, h1, h2⟩ := h
  exact ⟨cs, h1.only ho hg, h2⟩
theorem QBytes.srcb {g : Nat} {l : List Nat} (h : QBytes w g l) : Src w (some ⟨g, 0, none⟩) (bts l) := by
  obtain ⟨cs, h1, h2⟩ := h
  refine fun _ => ⟨_, rfl, fun j u hu => ?_⟩
  rw [add_zero_q]
  have hj : j < l.length := by have := (List.getElem?_eq_some_iff.1 hu).1; rw [length_bts] at this; exact this
  have hb := bts_at (List.getElem?_eq_getElem hj)
  rw [hu] at hb
  injection hb with hb
  rw [hb]
  exact h1.read (h2 j _ (List.getElem?_eq_getElem hj))
theorem RowNew.ok {r : RowB} (h : RowNew m w r) : r.ok w := by
  obtain ⟨g, h1, h2, h3, h4, h5, h6, h7⟩ := h
  exact ⟨by rw [h1]; exact h3.srcb, by omega, by omega, h7⟩
theorem RowNew.only {S : Nat → Prop} {r : RowB} (h : RowNew m w r) (ho : Only S w v) (hS : ∀ g cs, Row w g 5 cs → m ≤ g → ¬ S g) : RowNew m v r := by
  obtain ⟨g, h1, h2, h3, h4⟩ := h
  obtain ⟨cs, k1, k2⟩ := id h3
  exact ⟨g, h1, h2, h3.only ho (hS g cs k1 h2), h4⟩
theorem NewRows.only {S : Nat → Prop} (h : NewRows m w x L) (ho : Only S w v) (hS : ∀ g t cs, Row w g t cs → (t = 5 ∨ t = 34) → m ≤ g → ¬ S g) : NewRows m v x L := by
  refine ⟨own_only h.1 ho (fun k hk => ?_), fun r hr => (h.2 r hr).only ho (fun g cs hc hg => hS g 5 cs hc (.inl rfl) hg)⟩
  rcases h.1.2 with ⟨rfl, _⟩ | ⟨g, cap, cur, rfl, hb, hh, _⟩
  · simp [Value.ownBlock] at hk
  · have e : g = k := by simpa [Value.ownBlock] using hk
    subst e
    exact hS g _ cur hh (.inr rfl) hb
theorem NewIds.only {S : Nat → Prop} (h : NewIds m w x l) (ho : Only S w v) (hS : ∀ g cs, Row w g 37 cs → m ≤ g → ¬ S g) : NewIds m v x l := by
  refine own_only h ho (fun k hk => ?_)
  rcases h.2 with ⟨rfl, _⟩ | ⟨g, cap, cur, rfl, hb, hh, _⟩
  · simp [Value.ownBlock] at hk
  · have e : g = k := by simpa [Value.ownBlock] using hk
    subst e
    exact hS g cur hh hb
theorem NewRows.later (h : NewRows m w x L) (hb : Below w.heap.size w v) : NewRows m v x L := h.only (S := fun _ => False) (.of_below hb) (fun _ _ _ _ _ _ h => h)
theorem NewIds.later (h : NewIds m w x l) (hb : Below w.heap.size w v) : NewIds m v x l := h.only (S := fun _ => False) (.of_below hb) (fun _ _ _ _ h => h)
theorem NewRows.q {B : Nat} (h : NewRows m w x L) (ho : QOnly B w v) : NewRows m v x L :=
  h.only ho (fun g t cs hr ht _ hq => by
    obtain ⟨_, t', cs', h1, h2⟩ := hq
    have e := qrow_same hr h1
    subst e
    rcases ht with rfl | rfl <;> rcases h2 with h2 | h2 <;> revert h2 <;> decide)
theorem NewIds.q {B : Nat} (h : NewIds m w x l) (ho : QOnly B w v) : NewIds m v x l :=
  h.only ho (fun g cs hr _ hq => by
    obtain ⟨_, t', cs', h1, h2⟩ := hq
    have e := qrow_same hr h1
    subst e
    rcases h2 with h2 | h2 <;> revert h2 <;> decide)
/-- memory older than block m changes -/
theorem NewRows.older {S : Nat → Prop} (h : NewRows m w x L) (ho : Only S w v) (hS : ∀ k, S k → k < m) : NewRows m v x L :=
  h.only ho (fun g _ _ _ _ hg hs => by have := hS g hs; omega)
theorem NewIds.older {S : Nat → Prop} (h : NewIds m w x l) (ho : Only S w v) (hS : ∀ k, S k → k < m) : NewIds m v x l :=
  h.only ho (fun g _ _ hg hs => by have := hS g hs; omega)
/-- one block of another type changes -/
theorem NewRows.at {g : Nat} {t : TypeId} {cs : Array Value} (h : NewRows m w x L) (hr : Row w g t cs) (h1 : t ≠ 5) (h2 : t ≠ 34) (ho : Only (fun k => k = g) w v) : NewRows m v x L :=
  h.only ho (fun k t' cs' hr' ht _ hk => by
    subst hk
    have e := qrow_same hr hr'
    subst e
    rcases ht with ht | ht
    · exact h1 ht
    · exact h2 ht)
theorem NewIds.at {g : Nat} {t : TypeId} {cs : Array Value} (h : NewIds m w x l) (hr : Row w g t cs) (h1 : t ≠ 37) (ho : Only (fun k => k = g) w v) : NewIds m v x l :=
  h.only ho (fun k cs' hr' _ hk => by
    subst hk
    have e := qrow_same hr hr'
    exact h1 e)
theorem NewRows.form (h : NewRows m w x L) : ∃ A c, x = .slice A L.length c ∧ L.length ≤ c ∧ c ≤ 9223372036854775807 := by
  rcases h.1.2 with ⟨rfl, e⟩ | ⟨g, cap, cur, rfl, _, _, h1, h2, _⟩
  · exact ⟨none, 0, by rw [e], by omega, by omega⟩
  · exact ⟨_, cap, rfl, h1, by unfold maxLen at h2; exact h2⟩
theorem NewIds.form (h : NewIds m w x l) : ∃ A c, x = .slice A l.length c ∧ l.length ≤ c ∧ c ≤ 9223372036854775807 := by
  rcases h.2 with ⟨rfl, e⟩ | ⟨g, cap, cur, rfl, _, _, h1, h2, _⟩
  · exact ⟨none, 0, by rw [e], by omega, by omega⟩
  · exact ⟨_, cap, rfl, h1, by unfold maxLen at h2; exact h2⟩
theorem NewRows.cap_le {A : Option Addr} {n c : Nat} (h : NewRows m w (.slice A n c) L) : n = L.length ∧ n ≤ c := by
  obtain ⟨A', c', e, h1, _⟩ := h.form
  injection e with e1 e2 e3
  omega
theorem NewIds.cap_le {A : Option Addr} {n c : Nat} (h : NewIds m w (.slice A n c) l) : n = l.length ∧ n ≤ c := by
  obtain ⟨A', c', e, h1, _⟩ := h.form
  injection e with e1 e2 e3
  omega
theorem NewRows.src {A : Option Addr} {n c : Nat} (h : NewRows m w (.slice A n c) L) : RSrc w A L := by
  rcases h.1.2 with ⟨e, h0⟩ | ⟨g, cap, cur, e, _, _, _⟩
  · intro h9
    omega
  · injection e with e1 e2 e3
    subst e1
    exact fun _ => ⟨_, rfl, fun k r hr => ⟨h.1.cells (g := g) rfl k _ (by rw [List.getElem?_map, hr]; rfl), (h.2 r (List.mem_of_getElem? hr)).ok⟩⟩
theorem own_clip {B e n c : Nat} {A : Option Addr} {xs : List Value} (h : w.ownsRow B e 1 (.slice A n c) n xs) : ∃ c', w.ownsRow B e 1 (.slice A n c') n xs := ⟨c, h⟩
/-- one more field -/
theorem NewRows.next (h : NewRows m w x L) (r : RowB) (hm : m ≤ w.heap.size) (hL : L.length ≤ 1000) (hr : RowNew m w r) :
    ∃ A' c' w2, (Builtin.append_ #[29, 29] 29 #[x, .slice (some ⟨w.heap.size, 0, none⟩) 1 1]).run Try.prog (w.alloc (.cells #[r.v] 34)) = .ok (.slice A' (L.length + 1) c') w2 ∧
      NewRows m w2 (.slice A' (L.length + 1) c') (L ++ [r]) ∧ Only (fun k => x.ownBlock = some k) w w2 := by
  obtain ⟨i0, hi, hi0, hi1, hi2⟩ := info_parts Try.info34
  have hbA := bl_alloc (Below.refl w.heap.size w) (.cells #[r.v] 34)
  have a4' := own_later2 h.1 hbA
  obtain ⟨v', w2, hrun, hown, hgr, _, hat⟩ := run_append_own_at (P := Try.prog) (w := w.alloc (.cells #[r.v] 34)) m 29 29 34 i0 _ 1 24 Try.underlying29 hi hi0 hi1 hi2 rfl (by omega) x L.length (L.map RowB.v) a4' ⟨w.heap.size, 0, none⟩ 1 1 [r.v] rfl
    (fun j u hu => by
      match j, hu with
      | 0, hu =>
        simp only [List.getElem?_cons_zero, Option.some.injEq] at hu
        subst hu
        rw [add_zero_q]
        exact (Row.made w 34 #[r.v]).read rfl
      | j + 1, hu => simp at hu) (by intro u hu; simp at hu; subst hu; rfl) (by unfold maxLen; omega) (by omega) (by have := hbA.size; omega)
  have hon : Only (fun k => x.ownBlock = some k) w w2 := (Only.of_below hbA).andThen ((Only.refl _ _).grown hgr (fun k hk => .inl hk) : Only (fun k => x.ownBlock = some k) _ _) (fun k _ hk => hk)
  obtain ⟨A', c', rfl⟩ : ∃ A' c', v' = .slice A' (L.length + 1) c' := by
    rcases hown.2 with ⟨_, e⟩ | ⟨g, cap, cur, e, _⟩
    · omega
    · exact ⟨some ⟨g, 0, none⟩, cap, e⟩
  refine ⟨A', c', w2, hrun, ⟨by rw [List.map_append, List.length_append]; exact hown, fun y hy => ?_⟩, hon⟩
  have key : ∀ y, RowNew m w y → RowNew m w2 y := fun y h9 => h9.only hon (fun g cs hc _ hk => own_apart h.1 hc (by decide) hk)
  rw [List.mem_append, List.mem_singleton] at hy
  rcases hy with hy | rfl
  · exact key y (h.2 y hy)
  · exact key y hr
/-- one more number -/
theorem NewIds.next (h : NewIds m w x l) (i : Nat) (hm : m ≤ w.heap.size) (hL : l.length ≤ 1000) :
    ∃ A' c' w2, (Builtin.append_ #[44, 44] 44 #[x, .slice (some ⟨w.heap.size, 0, none⟩) 1 1]).run Try.prog (w.alloc (.cells #[.int .u64 i] 37)) = .ok (.slice A' (l.length + 1) c') w2 ∧
      NewIds m w2 (.slice A' (l.length + 1) c') (l ++ [i]) ∧ Only (fun k => x.ownBlock = some k) w w2 := by
  obtain ⟨i0, hi, hi0, hi1, hi2⟩ := info_parts (show (Try.prog.info? 37).map (fun i => (i.zero, i.size, i.bytes)) = some (some (.int .u64 0), 1, 8) by kernel_rfl)
  have hbA := bl_alloc (Below.refl w.heap.size w) (.cells #[.int .u64 i] 37)
  have a4' := own_later2 h hbA
  obtain ⟨v', w2, hrun, hown, hgr, _, hat⟩ := run_append_own_at (P := Try.prog) (w := w.alloc (.cells #[.int .u64 i] 37)) m 44 44 37 i0 _ 1 8 (show Try.prog.underlying 44 = some (.slice 37) by kernel_rfl) hi hi0 hi1 hi2 rfl (by omega) x l.length (idsV l) a4' ⟨w.heap.size, 0, none⟩ 1 1 [.int .u64 i] rfl
    (fun j u hu => by
      match j, hu with
      | 0, hu =>
        simp only [List.getElem?_cons_zero, Option.some.injEq] at hu
        subst hu
        rw [add_zero_q]
        exact (Row.made w 37 #[.int .u64 i]).read rfl
      | j + 1, hu => simp at hu) (by intro u hu; simp at hu; subst hu; rfl) (by unfold maxLen; omega) (by omega) (by have := hbA.size; omega)
  have hon : Only (fun k => x.ownBlock = some k) w w2 := (Only.of_below hbA).andThen ((Only.refl _ _).grown hgr (fun k hk => .inl hk) : Only (fun k => x.ownBlock = some k) _ _) (fun k _ hk => hk)
  obtain ⟨A', c', rfl⟩ : ∃ A' c', v' = .slice A' (l.length + 1) c' := by
    rcases hown.2 with ⟨_, e⟩ | ⟨g, cap, cur, e, _⟩
    · omega
    · exact ⟨some ⟨g, 0, none⟩, cap, e⟩
  exact ⟨A', c', w2, hrun, by unfold NewIds idsV; rw [List.map_append, List.length_append]; exact hown, hon⟩
end
end Go.Proofs.Ytbcjfdhphpckfaa
namespace Go.Proofs.Ytbcjfdhphpckfaa
open Go.RowKit


/-- like wp_scope_jumps; the first way may go through the label, too -/
theorem wp_scope_through {P : Program} {a : Act} {w : World} {Q : Exit → Act → World → Prop} {c tail : Code} (l : Nat) (J : Act → World → Prop) (μ : Act → World → Nat) (hf : findLabel c l = some (.seq .skip tail))
    (first : (∀ a w, J a w → tail.wp P (Exit.jump l J Q) a w) → c.wp P (Exit.jump l J Q) a w)
    (pass : ∀ a w, J a w → tail.wp P (Exit.jump l (fun a' w' => J a' w' ∧ μ a' w' < μ a w) Q) a w) : (Code.scope c).wp P Q a w := by
  refine wp_scope_jumps l J μ hf (first fun a w h b k cs => ?_) (fun a w h => wp_seq (wp_skip (pass a w h)))
  obtain ⟨e, a', w', hq, harr⟩ := pass a w h b k cs
  refine ⟨e, a', w', ?_, harr⟩
  cases e <;> simp only [Exit.jump] at hq ⊢
  all_goals first | exact hq | exact ⟨hq.1, hq.2.1⟩

theorem bts_take (l : List Nat) (n : Nat) : bts (l.take n) = (bts l).take n := by simp [bts, List.map_take]
theorem src_take {w : World} {A : Option Addr} {l : List Nat} (n : Nat) (h : Src w A (bts l)) : Src w A (bts (l.take n)) := by
  intro h0
  obtain ⟨ad, e, hc⟩ := h (by rw [length_bts] at *; rw [List.length_take] at h0; omega)
  refine ⟨ad, e, fun j u hu => hc j u ?_⟩
  rw [bts_take, List.getElem?_take] at hu
  split at hu
  · exact hu
  · cases hu
theorem src_dropc {w : World} {ad : Addr} {l : List Nat} {c : Nat} (n : Nat) (h : Src w (some ad) (bts (l.drop c))) : Src w (some (ad.add n)) (bts (l.drop (c + n))) := by
  intro h0
  obtain ⟨ad2, e, hc⟩ := h (by rw [length_bts, List.length_drop] at *; omega)
  injection e with e
  subst e
  refine ⟨_, rfl, fun j u hu => ?_⟩
  rw [Addr.add_add]
  refine hc (n + j) u ?_
  unfold bts at hu ⊢
  rw [List.getElem?_map, List.getElem?_drop] at hu ⊢
  rw [show c + (n + j) = c + n + j by omega]
  exact hu
/-- at the jump: the fields so far, and what is left -/
structure CutSt (B : Nat) (w0 : World) (bs ls : List Nat) (c : Nat) (L : List RowB) (v : Value) (Ab : Option Addr) (nb cb : Nat) (w : World) : Prop where
  own : OwnR B w v L
  inv : CInv bs ls (texts L) c
  left : nb = bs.length - c
  room : nb ≤ cb
  small : cb ≤ 9223372036854775807
  src : Src w0 Ab (bts (bs.drop c))
  below : Below B w0 w
/-- what cut answers -/
def CutAns (B : Nat) (w : World) (t : Option (List (List Nat))) (e : Ending) (w' : World) : Prop :=
  ((∃ v L, t = some (texts L) ∧ e = .returned (.tuple #[v, .int .i64 0]) ∧ OwnR B w' v L) ∨ (t = none ∧ e = .returned (.tuple #[.slice none 0 0, .int .i64 8]))) ∧ Below B w w'
section
variable {B : Nat} {w0 w : World} {bs ls : List Nat} {c nb cb : Nat} {L : List RowB} {v : Value} {Ab : Option Addr}
theorem CutSt.len (h : CutSt B w0 bs ls c L v Ab nb cb w) : L.length ≤ ls.length := by
  have := h.inv.1
  rwa [length_texts] at this
end
set_option maxRecDepth 100000 in
set_option maxHeartbeats 6400000 in
theorem cut_any {A Al : Option Addr} {bs ls : List Nat} (n cap m cl : Nat) (w : World) (hn : bs.length = n) (hn8 : n ≤ 1000000) (hcap : n ≤ cap) (hcm : cap ≤ 9223372036854775807) (hs : Src w A (bts bs)) (hb : ∀ b ∈ bs, b < 256)
    (hm : ls.length = m) (hm23 : m ≤ 23) (hsl : Src w Al (insN ls)) (hl1 : ∀ x ∈ ls, 1 ≤ x ∧ x < 65536) :
    Calls Try.prog 263 #[.slice A n cap, .slice Al m cl] w (CutAns w.heap.size w (cutF bs ls)) := by
  have HM := make_rows m (by omega)
  go_enter Try.func263, Try.ntmps263
  go_wp2
  refine wp_scope_through 0 (fun a' w' => ∃ (c : Nat) (L : List RowB) (v : Value) (Ab : Option Addr) (nb cb : Nat), Fr [some (.slice Ab nb cb), some (.slice Al m cl), none, none, some (.slice none 0 0), some (.int .i64 0), some v, none, none, none, none, none, none, none, none, none, none, none, none, none, none, none, none, none, none, none, none, none, none, none, none, none, none, none, none, none, none, none, none, none, none, none, none, none, none, none, none, none] a' ∧ sliceLen v = L.length ∧ Hid (CutSt w.heap.size w bs ls c L v Ab nb cb w')) (fun a' _ => 34 - sliceLen (a'.tmps.getD 6 undef)) rfl ?_ ?_
  · intro hrest
    have HI0 := Lib.hid (show CutSt w.heap.size w bs ls 0 [] (.slice (some ⟨w.heap.size, 0, none⟩) 0 (m + 1)) A n cap (w.alloc (.cells (List.replicate (m + 1) (Value.slice none 0 0)).toArray 34)) from
      ⟨own_rows m (by omega) w _ (Nat.le_refl _), CInv.start bs ls, by omega, hcap, hcm, hs, bl_alloc (Below.refl _ _) _⟩)
    have hrep : (List.replicate (m + 1) (Value.slice none 0 0)).toArray = Array.replicate (m + 1) (Value.slice none 0 0) := by simp
    rw [hrep] at HI0
    clear hrep
    go_wp2
    go_step3
    rename_i Q9 K9 h9
    refine h9 _ _ (hrest _ _ ⟨0, [], _, _, _, _, ?_, ?_, HI0⟩)
    · simp only [Fr, Holes]
      repeat apply Exists.intro
      rfl
    · simp [sliceLen]
  · rintro a' w' ⟨c, L, v, Ab, nb, cb, hfr, hsl2, HI⟩
    simp only [Fr, Holes] at hfr
    repeat (obtain ⟨_, hfr⟩ := hfr)
    obtain ⟨Av, cv, rfl, hv1, hv2⟩ := HI.out.own.form
    clear hsl2 HM
    have hlen := HI.out.len
    rw [hm] at hlen
    have hnb := HI.out.room
    have hnc := HI.out.small
    have hleft := HI.out.left
    have hnb6 : nb ≤ 1000000 := by omega
    have HN := Lib.hid hleft
    have HM := Lib.hid hm
    have HB := Lib.hid hb
    have HL1 := Lib.hid hl1
    have HSL := Lib.hid hsl
    clear hleft hn hm hb hl1 hs hsl
    by_cases hk : L.length < m
    · obtain ⟨mm, hmm⟩ : ∃ mm, ls[L.length]? = some mm := ⟨_, List.getElem?_eq_getElem (by have := HM.out; omega)⟩
      obtain ⟨hm1, hm2⟩ := HL1.out mm (List.mem_of_getElem? hmm)
      obtain ⟨adl, rfl, hcl⟩ := HSL.out (by rw [length_insN, HM.out]; omega)
      have hcell : w'.cell? (adl.add L.length) = some (.int .i64 mm) := cell_below HI.out.below (hcl _ _ (by simp [insN, hmm]))
      have hmm' : (ls[(texts L).length]?) = some mm := by rw [length_texts]; exact hmm
      clear hcl
      rcases Nat.lt_or_ge nb mm with hs1 | hs1
      · have HE := Lib.hid (HI.out.inv.short hmm' (by have := HN.out; omega))
        have hs2 : (nb : Int) < mm := by omega
        clear hmm hmm'
        go_wp2
        simp only [Exit.jump]
        refine bodyPost_ret (v := .tuple #[.slice none 0 0, .int .i64 8]) (by simp [results, Try.results263, go_sem]) rfl ⟨.inr ⟨HE.out, rfl⟩, HI.out.below⟩
      · have hbl := HI.out.below
        obtain ⟨adb, rfl, _⟩ := HI.out.src (by rw [length_bts, List.length_drop]; have := HN.out; omega)
        have hNX := HI.out.inv.next hmm' (by have := HN.out; omega)
        have HSB := Lib.hid (src_later HI.out.src HI.out.below)
        have HC := Lib.hid (copied_f (A := some adb) (l := (bs.drop c).take mm) w'.heap.size mm cb w' (by rw [List.length_take, List.length_drop]; have := HN.out; omega) (by omega) (by omega) (src_take mm HSB.out) (fun b h => HB.out b (List.mem_of_mem_drop (List.mem_of_mem_take h))) (Nat.le_refl _))
        have HST := Lib.hid (fun W1 A1 g3 c3 W3 (hmine : RowB.mine w'.heap.size W1 ⟨A1, mm, (bs.drop c).take mm⟩) (hb1 : Below w'.heap.size w' W1) (h3 : OwnR w.heap.size W3 (.slice (some ⟨g3, 0, none⟩) (L.length + 1) c3) (L ++ [⟨A1, mm, (bs.drop c).take mm⟩])) (hb3 : Below w.heap.size W1 W3) Ab nb2 cb2 (e1 : nb2 = nb - mm) (e2 : cb2 = cb - mm) (hs : Src w Ab (bts (bs.drop (c + mm)))) =>
          show CutSt w.heap.size w bs ls (c + mm) (L ++ [⟨A1, mm, (bs.drop c).take mm⟩]) (.slice (some ⟨g3, 0, none⟩) (L.length + 1) c3) Ab nb2 cb2 W3 from
          ⟨h3, by unfold texts; rw [List.map_append]; exact hNX, by have := HN.out; omega, by omega, by omega, hs, HI.out.below.trans ((hb1.mono HI.out.below.size).trans hb3)⟩)
        have HNXT := Lib.hid (fun W1 A1 (hmine : RowB.mine w'.heap.size W1 ⟨A1, mm, (bs.drop c).take mm⟩) (hb1 : Below w'.heap.size w' W1) => (HI.out.own.later hb1).next (Nat.le_trans HI.out.below.size hb1.size) ⟨A1, mm, (bs.drop c).take mm⟩ (hmine.down HI.out.below.size) (by omega))
        have HTK := Lib.hid (show ((bs.drop c).take mm).length = mm by rw [List.length_take, List.length_drop]; have := HN.out; omega)
        have hs2 : (mm : Int) ≤ nb := by omega
        have HSW := Lib.hid HI.out.src
        clear hmm hmm' hNX
        by_cases hcb : mm = cb
        · subst hcb
          go_wp2_with (first
            | (go_at_call 218; refine HC.out.mono ?_; rintro e w1 ⟨A1, rfl, hmine, hb1⟩; obtain ⟨g3, c3, w3, hr3, ho3, hb3⟩ := HNXT.out w1 A1 hmine hb1; rw [HTK.out] at hr3; (have HST2 := Lib.hid (HST.out w1 A1 g3 c3 w3 hmine hb1 ho3 hb3); clear hmine hb1 ho3 hb3))
            | (at_builtin; refine wpList_run rfl (.tmp 32) (.tmp 37) 29 rfl (.slice Av L.length cv) (.slice (some ⟨w1.heap.size, 0, none⟩) 1 1) (by rfl) (by rfl) hr3 ?_))
          go_step3
          refine ⟨rfl, ⟨c + mm, _, _, _, _, _, ?_, ?_, Lib.hid (HST2.out (some adb) 0 0 (by omega) (by omega) ?_)⟩, ?_⟩
          · simp only [Fr, Holes]
            repeat apply Exists.intro
            rfl
          · simp [sliceLen]
          · intro h0; rw [length_bts, List.length_drop] at h0; have := HN.out; omega
          · show 34 - sliceLen _ < 34 - sliceLen _
            simp [sliceLen]
            omega
        · have hcb2 : mm < cb := by omega
          go_wp2_with (first
            | (go_at_call 218; refine HC.out.mono ?_; rintro e w1 ⟨A1, rfl, hmine, hb1⟩; obtain ⟨g3, c3, w3, hr3, ho3, hb3⟩ := HNXT.out w1 A1 hmine hb1; rw [HTK.out] at hr3; (have HST2 := Lib.hid (HST.out w1 A1 g3 c3 w3 hmine hb1 ho3 hb3); clear hmine hb1 ho3 hb3))
            | (at_builtin; refine wpList_run rfl (.tmp 32) (.tmp 37) 29 rfl (.slice Av L.length cv) (.slice (some ⟨w1.heap.size, 0, none⟩) 1 1) (by rfl) (by rfl) hr3 ?_))
          go_step3
          refine ⟨rfl, ⟨c + mm, _, _, _, _, _, ?_, ?_, Lib.hid (HST2.out (some (adb.add mm)) (nb - mm) (cb - mm) rfl rfl ?_)⟩, ?_⟩
          · simp only [Fr, Holes]
            repeat apply Exists.intro
            rfl
          · simp [sliceLen]
          · exact src_dropc mm HSW.out
          · show 34 - sliceLen _ < 34 - sliceLen _
            simp [sliceLen]
            omega
    · have hkm : L.length = m := by omega
      have hkk : (texts L).length = ls.length := by rw [length_texts, HM.out]; exact hkm
      have hlt1 : ¬ ((L.length : Int) < (m : Int)) := by omega
      have hlt2 : ¬ ((L.length : Int) + 1 ≤ (m : Int)) := by omega
      have hl23 : L.length ≤ 23 := by omega
      clear hkm
      rcases Nat.eq_zero_or_pos nb with h0 | h0
      · have HE := Lib.hid (HI.out.inv.last_short hkk (by have := HN.out; omega))
        subst h0
        clear hkk
        go_wp2
        simp only [Exit.jump]
        refine bodyPost_ret (v := .tuple #[.slice none 0 0, .int .i64 8]) (by simp [results, Try.results263, go_sem]) rfl ⟨.inr ⟨HE.out, rfl⟩, HI.out.below⟩
      · have HE := Lib.hid (HI.out.inv.last hkk (by have := HN.out; omega))
        obtain ⟨adb, rfl, _⟩ := HI.out.src (by rw [length_bts, List.length_drop]; have := HN.out; omega)
        have HC := Lib.hid (copied_f (A := some adb) (l := bs.drop c) w'.heap.size nb cb w' (by rw [List.length_drop]; have := HN.out; omega) (by omega) (by omega) (src_later HI.out.src HI.out.below) (fun b h => HB.out b (List.mem_of_mem_drop h)) (Nat.le_refl _))
        have HNXT := Lib.hid (fun W1 A1 (hmine : RowB.mine w'.heap.size W1 ⟨A1, nb, bs.drop c⟩) (hb1 : Below w'.heap.size w' W1) => (HI.out.own.later hb1).next (Nat.le_trans HI.out.below.size hb1.size) ⟨A1, nb, bs.drop c⟩ (hmine.down HI.out.below.size) (by omega))
        have HTK := Lib.hid (show (bs.drop c).length = nb by rw [List.length_drop]; have := HN.out; omega)
        have HBW := Lib.hid HI.out.below
        have h1 : ¬ (nb : Int) < 1 := by omega
        have HX := Lib.hid (show ∀ A1, texts L ++ [bs.drop c] = texts (L ++ [⟨A1, nb, bs.drop c⟩]) from fun A1 => by unfold texts; rw [List.map_append]; rfl)
        clear hkk
        by_cases hcb : nb = cb
        · subst hcb
          go_wp2_with (first
            | (go_at_call 218; refine HC.out.mono ?_; rintro e w1 ⟨A1, rfl, hmine, hb1⟩; obtain ⟨g3, c3, w3, hr3, ho3, hb3⟩ := HNXT.out w1 A1 hmine hb1; rw [HTK.out] at hr3; (have HO3 := Lib.hid ho3; have HB3 := Lib.hid (HBW.out.trans ((hb1.mono HBW.out.size).trans hb3)); clear hmine hb1 ho3 hb3))
            | (at_builtin; refine wpList_run rfl (.tmp 32) (.tmp 37) 29 rfl (.slice Av L.length cv) (.slice (some ⟨w1.heap.size, 0, none⟩) 1 1) (by rfl) (by rfl) hr3 ?_))
          simp only [Exit.jump]
          refine bodyPost_ret (v := .tuple #[.slice (some ⟨g3, 0, none⟩) (L.length + 1) c3, .int .i64 0]) (by simp [results, Try.results263, go_sem]) rfl ⟨.inl ⟨_, _, ?_, rfl, HO3.out⟩, HB3.out⟩
          rw [HE.out, HX.out A1]
        · have hcb2 : nb < cb := by omega
          go_wp2_with (first
            | (go_at_call 218; refine HC.out.mono ?_; rintro e w1 ⟨A1, rfl, hmine, hb1⟩; obtain ⟨g3, c3, w3, hr3, ho3, hb3⟩ := HNXT.out w1 A1 hmine hb1; rw [HTK.out] at hr3; (have HO3 := Lib.hid ho3; have HB3 := Lib.hid (HBW.out.trans ((hb1.mono HBW.out.size).trans hb3)); clear hmine hb1 ho3 hb3))
            | (at_builtin; refine wpList_run rfl (.tmp 32) (.tmp 37) 29 rfl (.slice Av L.length cv) (.slice (some ⟨w1.heap.size, 0, none⟩) 1 1) (by rfl) (by rfl) hr3 ?_))
          simp only [Exit.jump]
          refine bodyPost_ret (v := .tuple #[.slice (some ⟨g3, 0, none⟩) (L.length + 1) c3, .int .i64 0]) (by simp [results, Try.results263, go_sem]) rfl ⟨.inl ⟨_, _, ?_, rfl, HO3.out⟩, HB3.out⟩
          rw [HE.out, HX.out A1]
end Go.Proofs.Ytbcjfdhphpckfaa
