/-
  rxwin: the first number goes on over what is whole; something came, is whole, is late. rxwin: something of a number came; a number is whole; what is missing is late. rxwin: what is missing is late; what is missing; a window is made, and is as at first.
-/
import Derived.Test.YtgdpjaojlhdhdaaJRxwinOnce02
import Derived.Carry
namespace Go.Proofs.Ytgdpjaojlhdhdaa
open Go.RowKit Go.Maps

def ints (l : List Int) : List Value := l.map fun a => .int .i64 a
theorem ints_app (l k : List Int) : ints (l ++ k) = ints l ++ ints k := by unfold ints; simp
theorem clipx_any {A : Option Addr} (n c : Nat) (w : World) (hc : n ≤ c) : Calls Try.prog 201 #[.slice A n c] w fun e w' => e = .returned (.slice A n n) ∧ w = w' := by
  cases A with
  | none =>
    go_enter Try.func201, Try.ntmps201
    go_wp2
    go_ret
    exact ⟨rfl, rfl⟩
  | some a =>
    go_enter Try.func201, Try.ntmps201
    go_wp2
    go_ret
    exact ⟨rfl, rfl⟩
def slLen : Value → Nat
  | .slice _ n _ => n
  | _ => 0
section
variable {w v : World} {x m k : Nat} {b size f st n : Int} {l r : List Bool} {p : Int → Bool}
theorem litx_ne {a c : Int} (h : a ≠ c) : (Lit.int .i64 a) ≠ .int .i64 c := fun e => h (by cases e; rfl)
theorem litx_key (a : Int) : WideAt.IsKeyLit (.int .i64 a) := by trivial
theorem setz_put {D : DataW Unit} (hown : w.ownsMap Try.prog 3 unitElem m (Maps.size D) D) (hsz : Maps.size D = k) (hD : ∀ n, Maps.has D (.int .i64 n) = (okn b n && p n)) (hn : okn b n = true) (hp : p n = false) {j : Nat}
    (ho : v.ownsMap Try.prog 3 unitElem m j (D.put (.int .i64 n) (.agg []))) : SetZ v m (k + 1) b (fun a => if a = n then true else p a) := by
  refine ⟨_, own_monoZ ho, ?_, fun a => ?_⟩
  · rw [size_put (hown.tidy lawZ), hD n, hn, hp, hsz]; rfl
  · by_cases e : a = n
    · subst e
      rw [has_put_same hown.isMap (litx_key _) _, hn]
      simp
    · rw [has_put_other (litx_ne e) _, hD a]
      simp [e]
theorem setz_del {D : DataW Unit} (hown : w.ownsMap Try.prog 3 unitElem m (Maps.size D) D) (hsz : Maps.size D = k + 1) (hD : ∀ n, Maps.has D (.int .i64 n) = (okn b n && p n)) (hn : okn b n = true) (hp : p n = true) {j : Nat}
    (ho : v.ownsMap Try.prog 3 unitElem m j (D.del (.int .i64 n))) : SetZ v m k b (fun a => if a = n then false else p a) := by
  refine ⟨_, own_monoZ ho, ?_, fun a => ?_⟩
  · have := size_del (k := .int .i64 n) (hown.tidy lawZ)
    rw [hD n, hn, hp, hsz] at this
    simp at this
    exact this
  · by_cases e : a = n
    · subst e
      rw [has_del_same]
      simp
    · rw [has_del_other (litx_ne e), hD a]
      simp [e]
theorem Row.turned {g : Nat} {t : TypeId} {cs : Array Value} (h : Row w g t cs) (ht : w.mapTurned v m) (hne : g ≠ m) : Row v g t cs := by
  have hg := ht.grown
  unfold Row at h ⊢
  rw [hg.block g (Row.inside (t := t) (cs := cs) h) (by simpa using hne)]
  exact h
theorem only_turned {S : Nat → Prop} (h : w.mapTurned v m) (hS : S m) : Only S w v :=
  (Only.refl S w).grown h.grown (fun k hk => by cases hk; exact .inl hS)
theorem next_shift (N f : Int) (k : Nat) : ((f + 1) % N + (k : Int)) % N = (f + ((k + 1 : Nat) : Int)) % N := by
  rw [Int.emod_add_emod, show f + 1 + (k : Int) = f + ((k + 1 : Nat) : Int) by omega]
theorem RxR.shift (h : RxR w x m b size f st (true :: r)) (hset : SetZ v m (r.count true) b (fun a => if a = f then false else ak (sz b) f (true :: r) a)) (hrow : Row v x 103 (XC b size f st ((f + (true :: r).length) % sz b) m)) :
    RxR (v.setCell ⟨x, 2, none⟩ (.int .i64 ((f + 1) % sz b))) x m b size ((f + 1) % sz b) st r := by
  have hz := h.pos
  have h2 := h.hs2
  have hl := h.hl
  obtain ⟨n1, n2⟩ := okn_true h.hf
  simp only [List.length_cons] at hl
  refine ⟨?_, ?_, h.rt, okn_mod h.rt _, h.hst, h.hs, h.hs2, by omega⟩
  · have e : ((f + 1) % sz b + (r.length : Nat)) % sz b = (f + (true :: r).length) % sz b := next_shift _ _ _
    rw [e]
    exact hrow.written 2 _
  · exact (hset.set ⟨x, 2, none⟩ (Ne.symm (hset.row_ne hrow)) _).as fun a ha => by
      obtain ⟨a1, a2⟩ := okn_true ha
      exact (ak_tail n1 n2 a1 a2 (by omega) true).symm
theorem RxR.marked (h : RxR w x m b size f st l) (hn : okn b n = true) (hk : ix (sz b) f n < l.length) (hp : ak (sz b) f l n = false) (hset : SetZ v m (l.count true + 1) b (fun a => if a = n then true else ak (sz b) f l a)) (hrow : Row v x 103 (XC b size f st ((f + l.length) % sz b) m)) :
    RxR v x m b size f st (l.set (ix (sz b) f n) true) := by
  have hz := h.pos
  obtain ⟨n1, n2⟩ := okn_true hn
  refine ⟨by rw [List.length_set]; exact hrow, ?_, h.rt, h.hf, h.hst, h.hs, h.hs2, by rw [List.length_set]; exact h.hl⟩
  rw [count_put (get_false hp hk)]
  exact hset.as fun a ha => by
    obtain ⟨a1, a2⟩ := okn_true ha
    exact (ak_put (by omega) n1 n2 a1 a2 hk).symm
theorem RxR.stat {st' : Int} (h : RxR w x m b size f st l) (ho : okn b st' = true) : RxR (w.setCell ⟨x, 3, none⟩ (.int .i64 st')) x m b size f st' l :=
  ⟨h.row.written 3 _, h.set.set ⟨x, 3, none⟩ (Ne.symm h.ne) _, h.rt, h.hf, ho, h.hs, h.hs2, h.hl⟩
theorem drop_cons {j : Nat} (h : l.getD j false = true) : l.drop j = true :: l.drop (j + 1) := by
  have hj := getD_lt h
  rw [getD_at hj] at h
  rw [List.drop_eq_getElem_cons hj, h]
theorem ak_first : ak (sz b) f l f = l.getD 0 false := by unfold ak; rw [ix_self]
set_option maxRecDepth 100000 in
set_option maxHeartbeats 3200000 in
theorem xslide_any (h : RxR w x m b size f st l) : Calls Try.prog 197 #[.pointer (some ⟨x, 0, none⟩)] w fun e w' => ∃ A, e = .returned (.slice A (opn l 0) (opn l 0)) ∧ SlAt w.heap.size 3 w' A (ints (past (sz b) f (opn l 0))) ∧
    RxR w' x m b size ((f + (opn l 0 : Nat)) % sz b) st (l.drop (opn l 0)) ∧ Only (XM x m) w w' := by
  have hlb : l.length ≤ 40000 := by have h1 := h.hs2; have h2 := h.hl; have h3 := h.pos; omega
  have HXI := Lib.hid (And.intro h.row.inside h.set.inside)
  have H0 := Lib.hid (show RxR w x m b size ((f + ((0 : Nat) : Int)) % sz b) st (l.drop 0) by
    have := okn_true h.hf
    rw [Int.natCast_zero, Int.add_zero, Int.emod_eq_of_lt this.1 this.2]
    exact h)
  have HZ0 : ∀ wr : World, wr.ownsRow w.heap.size 3 1 (.slice none 0 0) (past (sz b) f 0).length (ints (past (sz b) f 0)) := fun wr => World.ownsRow_nil _ _ _ _
  have HZ0 := Lib.hid HZ0
  have HO0 := Lib.hid (Only.refl (XM x m) w)
  have HLE := Lib.hid (opn_le (l := l) (c := 0) (by omega))
  have HIN := Lib.hid (fun i (hi : i < opn l 0) => opn_in (l := l) 0 i (by omega) hi)
  have HAT := Lib.hid (opn_at (l := l) 0)
  generalize opn l 0 = j at *
  clear h
  go_enter Try.func197, Try.ntmps197
  go_wp2
  go_loopw [3] (fun s3 wr => ∃ (k : Nat) (f' : Int), k ≤ j ∧ Hid (f' = (f + (k : Int)) % sz b) ∧ Hid (RxR wr x m b size f' st (l.drop k)) ∧ Hid (wr.ownsRow w.heap.size 3 1 s3 (past (sz b) f k).length (ints (past (sz b) f k))) ∧ Hid (Only (XM x m) w wr)) (fun s3 _ => l.length - slLen s3)
  case atStart => exact ⟨0, _, by omega, Lib.hid rfl, H0, Lib.hid (HZ0.out _), HO0⟩
  case round =>
    obtain ⟨k, f', hk, HF, HWr, HOW, HOr⟩ := hrel
    obtain ⟨A3, c3, rfl, hc3, hc3m⟩ := own_shape HOW.out
    obtain ⟨c0, c1, c2, c3', c4, c5⟩ := xcells HWr.out.row
    have hh := xhas_ok HWr.out HWr.out.hf
    rw [ak_first, drop_getD, Nat.add_zero] at hh
    have HPL := Lib.hid (past_length : (past (sz b) f k).length = k)
    by_cases hlt : k < j
    · have hv := HIN.out k hlt
      rw [hv] at hh
      have HH := Lib.hid hh
      have HWc := Lib.hid (show RxR wr x m b size f' st (true :: l.drop (k + 1)) by rw [← drop_cons hv]; exact HWr.out)
      have HPS := Lib.hid (show past (sz b) f (k + 1) = past (sz b) f k ++ [f'] by rw [past_succ, HF.out])
      have HFN := Lib.hid (show (f' + 1) % sz b = (f + ((k + 1 : Nat) : Int)) % sz b by rw [HF.out, Int.emod_add_emod, show f + (k : Int) + 1 = f + ((k + 1 : Nat) : Int) by omega])
      have HKJ := Lib.hid hlt
      clear hh hv hlt
      go_wp2_with (first
        | (go_at_call 195; (with_reducible refine HH.out.mono ?_); rintro e w2 ⟨rfl, hb2⟩; (
            have HB2 := Lib.hid hb2
            have HR2 := Lib.hid (HWc.out.later hb2)
            have hsz2 : w.heap.size ≤ w2.heap.size := Nat.le_trans HOr.out.size hb2.size
            have hown2 := own_after HOW.out hb2
            obtain ⟨A', c', w3, hrun, hown, hon⟩ := own_next (T := 85) (E := 3) (u := .int .i64 f') (by kernel_rfl) (show (Try.prog.info? 3).map (fun i => (i.zero, i.size, i.bytes)) = some (some (.int .i64 0), 1, 8) by kernel_rfl) rfl (by omega) rfl hown2 hsz2 (by have := HPL.out; have := HLE.out; omega)
            have HRUN := Lib.hid hrun
            have HR3 := Lib.hid (HR2.out.only hon (fun hk => by have := (own_block hown2 _ hk).1; have := HXI.out.1; omega) (fun hk => by have := (own_block hown2 _ hk).1; have := HXI.out.2; omega))
            have HBD := Lib.hid (bl_drew (Below.refl w3.heap.size w3))
            have HR3d := Lib.hid (HR3.out.later HBD.out)
            have HOW3 := Lib.hid (own_after hown HBD.out)
            have HO3 := Lib.hid (((HOr.out.andThen (T := XM x m) (Only.of_below HB2.out) (fun _ _ hk => hk)).andThen (T := fun k => w.heap.size ≤ k) (hon.weaker (fun k _ hk => (own_block hown2 k hk).1)) (fun k h1 h2 => by omega)).drew)
            obtain ⟨D', hownD, hszD, hDD⟩ := HR3d.out.set
            have HP' := Lib.hid (fun v j => setz_del (v := v) (j := j) hownD (k := (l.drop (k + 1)).count true) (hszD.trans (by simp)) hDD HR3d.out.hf (by rw [ak_first]; rfl))
            have hkey' := keyOf_int_mk Try.underlying3 (okn_wf HR3d.out.hf)
            clear c0 c1 c2 c3' c4 c5
            obtain ⟨c0, c1, c2, c3', c4, c5⟩ := xcells HR2.out.row
            obtain ⟨d0, d1, d2, d3, d4, d5⟩ := xcells HR3.out.row
            clear hb2 hrun hown hon hszD hDD hown2 hsz2))
        | (at_builtin; refine wpList_is rfl (.tmp 10) (.tmp 15) 85 rfl _ _ (by rfl) (by rfl) HRUN.out ?_)
        | go_in)
      go_still_tail 8, (by kernel_rfl)
      change wpList _ _ _ _ _ w3.drew
      generalize w3.drew = w6 at *
      clear d0 d1 d2 d3 d4 d5 c0 c1 c2 c3' c4 c5
      go_wp2_with (first
        | (at_delete; refine wpList_delete_own _ rfl _ _ 101 3 rfl 253 lawZ Try.underlying101 _ m _ D' rfl hownD _ _ rfl hkey' ?_; intro w7 hown7 hturn7; (
            have HS7 := Lib.hid (HP'.out w7 _ hown7)
            have HR7 := Lib.hid (HR3d.out.row.turned hturn7 HR3d.out.ne)
            have HO7 := Lib.hid (HO3.out.andThen (only_turned (S := XM x m) hturn7 (.inr rfl)) (fun _ _ hk => hk))
            have HW7 := Lib.hid (own_only HOW3.out (only_turned (S := fun k => k = m) hturn7 rfl) (fun k hk e => by have := (own_block HOW3.out k hk).1; have := HXI.out.2; omega))
            have HBE := Lib.hid (xbehind_any HR7.out HR3d.out.rt HR3d.out.hf)
            have HSH := Lib.hid (fun v => HR3d.out.shift (v := v))
            clear hown7 hturn7
            obtain ⟨c0, c1, c2, c3', c4, c5⟩ := xcells HR7.out))
        | (go_at_call 200; (with_reducible refine HBE.out.mono ?_); rintro e w8 ⟨rfl, hb8⟩; (
            have HB8 := Lib.hid hb8
            have HR8 := Lib.hid (HR7.out.later hb8)
            have HS8 := Lib.hid (HS7.out.later hb8)
            have HW8 := Lib.hid (own_after HW7.out hb8)
            have f2 := HR8.out.free 2
            clear hb8 c0 c1 c2 c3' c4 c5
            obtain ⟨c0, c1, c2, c3', c4, c5⟩ := xcells HR8.out))
        | go_in)
      go_roundw
      case rel => exact ⟨k + 1, _, by have := HKJ.out; omega, HFN, Lib.hid (HSH.out w8 HS8.out HR8.out), Lib.hid (by rw [HPS.out, List.length_append, ints_app]; exact own_only HW8.out ((Only.refl (fun k => k = x) _).set (.inl rfl) _) (fun k hk e => by have := (own_block HW8.out k hk).1; have := HXI.out.1; omega)), Lib.hid ((HO7.out.andThen (T := XM x m) (Only.of_below HB8.out) (fun _ _ hk => hk)).set (.inl (.inl rfl)) _)⟩
      case measure => simp only [slLen]; have := HPL.out; have := HKJ.out; have := HLE.out; omega
    · obtain rfl : k = j := by omega
      rw [HAT.out] at hh
      have HH := Lib.hid hh
      have HC := Lib.hid (fun W => clipx_any (A := A3) (past (sz b) f k).length c3 W hc3)
      clear hh hlt c0 c1 c2 c3' c4 c5
      obtain ⟨c0, c1, c2, c3', c4, c5⟩ := xcells HWr.out.row
      generalize hq : (past (sz b) f k).length = q at *
      have HQ := Lib.hid hq
      clear hq
      go_wp2_with (first
        | (go_at_call 195; (with_reducible refine HH.out.mono ?_); rintro e w2 ⟨rfl, hb2⟩; (have HB2 := Lib.hid hb2; clear hb2))
        | (go_at_call 201; (with_reducible refine (HC.out _).mono ?_); rintro e w3 ⟨rfl, rfl⟩) | go_in)
      go_ret
      have hqk := HPL.out
      subst hqk
      refine ⟨A3, rfl, own_at (own_after HOW.out HB2.out), ?_, HOr.out.andThen (T := XM x m) (Only.of_below HB2.out) (fun _ _ hk => hk)⟩
      have := HWr.out.later HB2.out
      rw [HF.out] at this
      exact this
end
end Go.Proofs.Ytgdpjaojlhdhdaa
namespace Go.Proofs.Ytgdpjaojlhdhdaa
open Go.RowKit Go.Maps

/-- what a window is between calls -/
structure RX (w : World) (x m : Nat) (b size f : Int) (c : Nat) (l : List Bool) : Prop where
  mem : RxR w x m b size f ((f + (c : Int)) % sz b) l
  hc : c ≤ l.length
  h0 : l.getD 0 false = false
  hcc : l.getD c false = false
/-- a number is whole: which are, then -/
def mark (l : List Bool) (i : Nat) : List Bool := (gro l (i + 1)).set i true
section
variable {w v : World} {x m k c : Nat} {b size f st n : Int} {l r : List Bool} {p : Int → Bool}
theorem RX.later (h : RX w x m b size f c l) (hb : Below w.heap.size w v) : RX v x m b size f c l := { h with mem := h.mem.later hb }
theorem RX.only {S : Nat → Prop} (h : RX w x m b size f c l) (ho : Only S w v) (hx : ¬ S x) (hm : ¬ S m) : RX v x m b size f c l := { h with mem := h.mem.only ho hx hm }
theorem mark_getD {i j : Nat} : (mark l i).getD j false = if j = i then true else l.getD j false := by
  unfold mark
  rw [set_getD (by rw [gro_length]; omega), gro_getD]
theorem mark_length {i : Nat} : (mark l i).length = max l.length (i + 1) := by unfold mark; rw [List.length_set, gro_length]
/-- what stays behind what the first end went past is right again -/
theorem RX.slid (h : RX w x m b size f c l) (i : Nat) : opn (mark l i) 0 ≤ opn (mark l i) c ∧ opn (mark l i) c ≤ (mark l i).length := by
  have hc := h.hc
  refine ⟨?_, opn_le (by rw [mark_length]; omega)⟩
  by_cases hlt : opn (mark l i) c < opn (mark l i) 0
  · exfalso
    have h1 := opn_in (l := mark l i) 0 _ (Nat.zero_le _) hlt
    rw [opn_at] at h1
    cases h1
  · omega
set_option maxRecDepth 100000 in
set_option maxHeartbeats 800000 in
theorem xcame_bad (h : RX w x m b size f c l) (hn : fltx b size f n ≠ 0) : Calls Try.prog 51 #[.pointer (some ⟨x, 0, none⟩), .int .i64 n] w fun e w' => e = .returned (.int .i64 (fltx b size f n)) ∧ Below w.heap.size w w' := by
  have HF := Lib.hid (xfault_any h.mem n)
  generalize fltx b size f n = q at *
  have hq : (q != 0) = true := by simpa using hn
  clear h hn
  go_enter Try.func51, Try.ntmps51
  go_wp2_with (go_at_call 193; (with_reducible refine HF.out.mono ?_); rintro e w1 ⟨rfl, hb1⟩; (have HB1 := Lib.hid hb1; clear hb1))
  go_ret
  exact ⟨rfl, HB1.out⟩
theorem flt_zero (h : fltx b size f n = 0) : okn b n = true ∧ (ix (sz b) f n : Int) < size := by
  unfold fltx at h
  split at h
  · rename_i ho
    split at h
    · rename_i hf
      rw [farx_ix ho] at hf
      exact ⟨ho, hf⟩
    · cases h
  · cases h
theorem flt_good (ho : okn b n = true) (hi : (ix (sz b) f n : Int) < size) : fltx b size f n = 0 := by
  unfold fltx
  rw [if_pos ho, farx_ix ho, if_pos hi]
theorem RX.gone (h : RX w x m b size f c l) {k : Nat} (hm : RxR v x m b size f ((f + (c : Int)) % sz b) (gro l k)) : RX v x m b size f c (gro l k) :=
  ⟨hm, by rw [gro_length]; have := h.hc; omega, by rw [gro_getD]; exact h.h0, by rw [gro_getD]; exact h.hcc⟩
set_option maxRecDepth 100000 in
set_option maxHeartbeats 800000 in
theorem xcame_ok (h : RX w x m b size f c l) (hn : okn b n = true) (hi : (ix (sz b) f n : Int) < size) : Calls Try.prog 51 #[.pointer (some ⟨x, 0, none⟩), .int .i64 n] w fun e w' => e = .returned (.int .i64 0) ∧ RX w' x m b size f c (gro l (ix (sz b) f n + 1)) ∧ Only (XM x m) w w' := by
  have HF := Lib.hid (xfault_any h.mem n)
  rw [flt_good hn hi] at HF
  have HR := Lib.hid (fun W (hb : Below w.heap.size w W) => xreach_any (h.mem.later hb) hn hi)
  have HG := Lib.hid (fun v k => h.gone (v := v) (k := k))
  clear h hn hi
  go_enter Try.func51, Try.ntmps51
  go_wp2_with (first
    | (go_at_call 193; (with_reducible refine HF.out.mono ?_); rintro e w1 ⟨rfl, hb1⟩; (have HB1 := Lib.hid hb1; clear hb1))
    | (go_at_call 194; (with_reducible refine (HR.out _ HB1.out).mono ?_); rintro e w2 ⟨rfl, hw2, ho2⟩; (have HW2 := Lib.hid hw2; have HO2 := Lib.hid ho2; clear hw2 ho2)))
  go_ret
  exact ⟨rfl, HG.out _ _ HW2.out, (Only.of_below HB1.out).andThen HO2.out (fun _ _ hk => hk)⟩
set_option maxRecDepth 100000 in
set_option maxHeartbeats 800000 in
theorem xwhole_bad (h : RX w x m b size f c l) (hn : fltx b size f n ≠ 0) : Calls Try.prog 52 #[.pointer (some ⟨x, 0, none⟩), .int .i64 n] w fun e w' => e = .returned (.tuple #[.slice none 0 0, .int .i64 (fltx b size f n)]) ∧ Below w.heap.size w w' := by
  have HF := Lib.hid (xfault_any h.mem n)
  generalize fltx b size f n = q at *
  have hq : (q != 0) = true := by simpa using hn
  clear h hn
  go_enter Try.func52, Try.ntmps52
  go_wp2_with (go_at_call 193; (with_reducible refine HF.out.mono ?_); rintro e w1 ⟨rfl, hb1⟩; (have HB1 := Lib.hid hb1; clear hb1))
  go_ret2
  exact ⟨rfl, HB1.out⟩
set_option maxRecDepth 100000 in
set_option maxHeartbeats 800000 in
theorem xwhole_twice (h : RX w x m b size f c l) (hn : okn b n = true) (hi : (ix (sz b) f n : Int) < size) (ha : ak (sz b) f l n = true) : Calls Try.prog 52 #[.pointer (some ⟨x, 0, none⟩), .int .i64 n] w fun e w' => e = .returned (.tuple #[.slice none 0 0, .int .i64 12]) ∧ Below w.heap.size w w' := by
  have HF := Lib.hid (xfault_any h.mem n)
  rw [flt_good hn hi] at HF
  have HH := Lib.hid (fun W (hb : Below w.heap.size w W) => xhas_ok (h.mem.later hb) hn)
  rw [ha] at HH
  clear h hn hi ha
  go_enter Try.func52, Try.ntmps52
  go_wp2_with (first
    | (go_at_call 193; (with_reducible refine HF.out.mono ?_); rintro e w1 ⟨rfl, hb1⟩; (have HB1 := Lib.hid hb1; clear hb1))
    | (go_at_call 195; (with_reducible refine (HH.out _ HB1.out).mono ?_); rintro e w2 ⟨rfl, hb2⟩; (have HB2 := Lib.hid (bl_step HB1.out hb2); clear hb2)))
  go_ret2
  exact ⟨rfl, HB2.out⟩
set_option maxRecDepth 100000 in
set_option maxHeartbeats 1600000 in
theorem xwhole_ok (h : RX w x m b size f c l) (hn : okn b n = true) (hi : (ix (sz b) f n : Int) < size) (ha : ak (sz b) f l n = false) : Calls Try.prog 52 #[.pointer (some ⟨x, 0, none⟩), .int .i64 n] w fun e w' => ∃ A,
    e = .returned (.tuple #[.slice A (opn (mark l (ix (sz b) f n)) 0) (opn (mark l (ix (sz b) f n)) 0), .int .i64 0]) ∧ SlAt w.heap.size 3 w' A (ints (past (sz b) f (opn (mark l (ix (sz b) f n)) 0))) ∧
    RX w' x m b size ((f + (opn (mark l (ix (sz b) f n)) 0 : Nat)) % sz b) (opn (mark l (ix (sz b) f n)) c - opn (mark l (ix (sz b) f n)) 0) ((mark l (ix (sz b) f n)).drop (opn (mark l (ix (sz b) f n)) 0)) ∧ Only (XM x m) w w' := by
  have HF := Lib.hid (xfault_any h.mem n)
  rw [flt_good hn hi] at HF
  have HH := Lib.hid (fun W (hb : Below w.heap.size w W) => xhas_ok (h.mem.later hb) hn)
  rw [ha] at HH
  have HR := Lib.hid (fun W (hb : Below w.heap.size w W) => xreach_any (h.mem.later hb) hn hi)
  have hsl := h.slid (ix (sz b) f n)
  have HPO := Lib.hid hsl
  have hixl : ix (sz b) f n < (gro l (ix (sz b) f n + 1)).length := by rw [gro_length]; omega
  have HMK := Lib.hid (fun W v (hW : RxR W x m b size f ((f + (c : Int)) % sz b) (gro l (ix (sz b) f n + 1))) => hW.marked (v := v) hn hixl (by rw [ak_gro]; exact ha))
  have hcl : c ≤ (mark l (ix (sz b) f n)).length := by rw [mark_length]; have := h.hc; omega
  have HOP := Lib.hid (fun W (hW : RxR W x m b size f ((f + (c : Int)) % sz b) (mark l (ix (sz b) f n))) => xopen_at hW hcl rfl)
  have HSL := Lib.hid (fun W st (hW : RxR W x m b size f st (mark l (ix (sz b) f n))) => xslide_any hW)
  have hgl : (gro l (ix (sz b) f n + 1)).count true ≤ 40000 := by
    have h1 := List.count_le_length (a := true) (l := gro l (ix (sz b) f n + 1))
    have h2 := h.mem.hl
    have h3 := h.mem.hs2
    have h4 := h.mem.pos
    rw [gro_length] at h1
    omega
  have hkey := keyOf_int_mk Try.underlying3 (okn_wf hn)
  have HAK := Lib.hid (show ak (sz b) f (gro l (ix (sz b) f n + 1)) n = false by rw [ak_gro]; exact ha)
  have HNO := Lib.hid hn
  have HAT := Lib.hid (And.intro (opn_at (l := mark l (ix (sz b) f n)) 0) (opn_at (l := mark l (ix (sz b) f n)) c))
  have HST := Lib.hid (fun o : Nat => okn_mod h.mem.rt (f + o))
  have HSZ := Lib.hid (show ∀ o1 o2 : Nat, o1 ≤ o2 → (f + (o2 : Int)) % sz b = ((f + (o1 : Int)) % sz b + ((o2 - o1 : Nat) : Int)) % sz b from fun o1 o2 ho => by
    rw [Int.emod_add_emod, show f + (o1 : Int) + ((o2 - o1 : Nat) : Int) = f + (o2 : Int) by omega])
  have hmk : (gro l (ix (sz b) f n + 1)).set (ix (sz b) f n) true = mark l (ix (sz b) f n) := rfl
  rw [hmk] at HMK
  generalize mark l (ix (sz b) f n) = l2 at *
  generalize gro l (ix (sz b) f n + 1) = l1 at *
  clear h hn hi ha hsl hixl hmk
  go_enter Try.func52, Try.ntmps52
  go_wp2_with (first
    | (go_at_call 193; (with_reducible refine HF.out.mono ?_); rintro e w1 ⟨rfl, hb1⟩; (have HB1 := Lib.hid hb1; clear hb1))
    | (go_at_call 195; (with_reducible refine (HH.out _ HB1.out).mono ?_); rintro e w2 ⟨rfl, hb2⟩; (have HB2 := Lib.hid (bl_step HB1.out hb2); clear hb2))
    | (go_at_call 194; (with_reducible refine (HR.out _ HB2.out).mono ?_); rintro e w3 ⟨rfl, hw3, ho3⟩; (
        have HW3 := Lib.hid hw3
        have HO3 := Lib.hid ((Only.of_below HB2.out).andThen ho3 (fun _ _ hk => hk) : Only (XM x m) w w3)
        obtain ⟨D, hown, hsz, hD⟩ := HW3.out.set
        have hlen : Maps.size D < maxLen := by unfold maxLen; omega
        have HP := Lib.hid (fun v j => setz_put (v := v) (j := j) hown hsz hD HNO.out HAK.out)
        obtain ⟨c0, c1, c2, c3, c4, c5⟩ := xcells HW3.out.row
        clear hw3 ho3 hsz hD))
    | (at_mapUpdate; refine wpList_mapUpdate_in _ rfl _ _ _ 101 rfl 3 253 lawZ Try.underlying101 _ m _ D rfl hown hlen _ _ _ rfl rfl hkey _ [] unitElem_mk ?_; intro w4 hown4 hturn4; (
        have HW4 := Lib.hid (HMK.out _ w4 HW3.out (HP.out w4 _ hown4) (HW3.out.row.turned hturn4 HW3.out.ne))
        have HO4 := Lib.hid (HO3.out.andThen (only_turned (S := XM x m) hturn4 (.inr rfl)) (fun _ _ hk => hk))
        clear hown4 hturn4 c0 c1 c2 c3 c4 c5
        obtain ⟨c0, c1, c2, c3, c4, c5⟩ := xcells HW4.out.row))
    | (go_at_call 196; (with_reducible refine (HOP.out _ HW4.out).mono ?_); rintro e w5 ⟨rfl, hb5⟩; (
        have HW5 := Lib.hid (HW4.out.later hb5)
        have HO5 := Lib.hid (HO4.out.andThen (T := XM x m) (Only.of_below hb5) (fun _ _ hk => hk))
        have HW6 := Lib.hid (HW5.out.stat (HST.out (opn l2 c)))
        have HO6 := Lib.hid (HO5.out.set (p := ⟨x, 3, none⟩) (.inl (.inl rfl)) (.int .i64 ((f + (opn l2 c : Nat)) % sz b)))
        have f3 := HW5.out.row.free 3
        clear hb5 c0 c1 c2 c3 c4 c5
        obtain ⟨c0, c1, c2, c3, c4, c5⟩ := xcells HW5.out.row))
    | (go_at_call 197; (with_reducible refine (HSL.out _ _ HW6.out).mono ?_); rintro e w7 ⟨A, rfl, ha7, hw7, ho7⟩; (
        have HA7 := Lib.hid ha7
        have HW7 := Lib.hid hw7
        have HO7 := Lib.hid (HO6.out.andThen ho7 (fun _ _ hk => hk))
        clear ha7 hw7 ho7)))
  go_ret2
  have hpo := HPO.out
  have hw := HW7.out
  refine ⟨A, rfl, ?_, ⟨?_, ?_, ?_, ?_⟩, HO7.out⟩
  · intro hne
    obtain ⟨g, cs, h1, h2, h3, h4⟩ := HA7.out hne
    exact ⟨g, cs, h1, by have := HO6.out.size; omega, h3, h4⟩
  · rw [← HSZ.out _ _ hpo.1]; exact hw
  · rw [List.length_drop]; omega
  · rw [drop_getD, Nat.add_zero]; exact HAT.out.1
  · rw [drop_getD, show opn l2 0 + (opn l2 c - opn l2 0) = opn l2 c by omega]; exact HAT.out.2
end
end Go.Proofs.Ytgdpjaojlhdhdaa
namespace Go.Proofs.Ytgdpjaojlhdhdaa
open Go.RowKit Go.Maps Go.ChangeMaps Go.MapKept

section
variable {w v : World} {x m k c : Nat} {b size f st n : Int} {l r : List Bool} {p : Int → Bool}
theorem RX.stat_far (h : RX w x m b size f c l) : farx b f ((f + (c : Int)) % sz b) = c := by
  have h1 := h.mem.hs2
  have h2 := h.mem.hl
  have h3 := h.mem.pos
  have h4 := h.hc
  exact farx_at h.mem.rt (by omega)
set_option maxRecDepth 100000 in
set_option maxHeartbeats 800000 in
theorem xlate_no (h : RX w x m b size f c l) (hn : okn b n = false) : Calls Try.prog 53 #[.pointer (some ⟨x, 0, none⟩), .int .i64 n] w fun e w' => e = .returned (.int .i64 1) ∧ Below w.heap.size w w' := by
  have HM := Lib.hid (xmade_any h.mem.row)
  have HI := Lib.hid (fun W => by have h1 := sqis_any b n W; rw [hn] at h1; exact h1)
  have HR := Lib.hid h.mem.row
  clear h hn
  go_enter Try.func53, Try.ntmps53
  go_wp2_with (first
    | (go_at_call 198; (with_reducible refine HM.out.mono ?_); rintro e w1 ⟨rfl, hb1⟩; (have HB1 := Lib.hid hb1; obtain ⟨c0, c1, c2, c3, c4, c5⟩ := xcells (HR.out.later HB1.out); clear hb1))
    | (go_at_call 185; (with_reducible refine (HI.out _).mono ?_); rintro e w2 ⟨rfl, hb2⟩; (have HB2 := Lib.hid (bl_step HB1.out hb2); clear hb2)))
  go_ret
  exact ⟨rfl, HB2.out⟩
set_option maxRecDepth 100000 in
set_option maxHeartbeats 1600000 in
theorem xlate_far (h : RX w x m b size f c l) (hn : okn b n = true) (hf : l.length < ix (sz b) f n) : Calls Try.prog 53 #[.pointer (some ⟨x, 0, none⟩), .int .i64 n] w fun e w' => e = .returned (.int .i64 11) ∧ Below w.heap.size w w' := by
  have HM := Lib.hid (xmade_any h.mem.row)
  have HI := Lib.hid (fun W => by have h1 := sqis_any b n W; rw [hn] at h1; exact h1)
  have HF := Lib.hid (fun W (hb : Below w.heap.size w W) => by have h1 := xfar_any (h.mem.later hb) n; rw [farx_ix hn] at h1; exact h1)
  have HF2 := Lib.hid (fun W (hb : Below w.heap.size w W) => by have h1 := xfar_any (h.mem.later hb) ((f + l.length) % sz b); rw [end_farx h.mem] at h1; exact h1)
  have HR := Lib.hid h.mem.row
  generalize (f + (l.length : Int)) % sz b = en at *
  generalize ix (sz b) f n = i at *
  generalize l.length = L at *
  have hgi : (L : Int) < i := by omega
  clear h hn hf
  go_enter Try.func53, Try.ntmps53
  go_wp2_with (first
    | (go_at_call 198; (with_reducible refine HM.out.mono ?_); rintro e w1 ⟨rfl, hb1⟩; (have HB1 := Lib.hid hb1; obtain ⟨c0, c1, c2, c3, c4, c5⟩ := xcells (HR.out.later HB1.out); clear hb1))
    | (go_at_call 185; (with_reducible refine (HI.out _).mono ?_); rintro e w2 ⟨rfl, hb2⟩; (have HB2 := Lib.hid (bl_drew (bl_step HB1.out hb2)); have HR2 := Lib.hid (HR.out.later HB2.out); have k0 := xc04 HR2.out; clear hb2 c0 c1 c2 c3 c4 c5)))
  go_region_held3 (fun w' => w'.cell? ⟨x, 4, none⟩ = some (.int .i64 en)) (first | assumption | exact k0 | exact xc04 HR3.out | exact xc04 HR4.out | go_keep)
    (first
      | (go_at_call 55; (with_reducible refine (HF.out _ HB2.out).mono ?_); rintro e w3 ⟨rfl, hb3⟩; (have HB3 := Lib.hid (bl_step HB2.out hb3); have HR3 := Lib.hid (HR2.out.later hb3); clear hb3))
      | (go_at_call 55; (with_reducible refine (HF2.out _ HB3.out).mono ?_); rintro e w4 ⟨rfl, hb4⟩; (have HB4 := Lib.hid (bl_step HB3.out hb4); have HR4 := Lib.hid (HR3.out.later hb4); clear hb4)))
  go_wp2
  go_ret
  exact ⟨rfl, HB4.out⟩
theorem xc34 {en : Int} (hr : Row w x 103 (XC b size f st en m)) : w.cell? ⟨x, 3, none⟩ = some (.int .i64 st) ∧ w.cell? ⟨x, 4, none⟩ = some (.int .i64 en) := ⟨hr.read rfl, hr.read rfl⟩
set_option maxRecDepth 100000 in
set_option maxHeartbeats 3200000 in
theorem xlate_ok (h : RX w x m b size f c l) (hn : okn b n = true) (hf : ix (sz b) f n ≤ l.length) : Calls Try.prog 53 #[.pointer (some ⟨x, 0, none⟩), .int .i64 n] w fun e w' => e = .returned (.int .i64 0) ∧ RX w' x m b size f (if c ≤ ix (sz b) f n then opn l (ix (sz b) f n) else c) l ∧ Only (XM x m) w w' := by
  have HM := Lib.hid (xmade_any h.mem.row)
  have HI := Lib.hid (fun W => by have h1 := sqis_any b n W; rw [hn] at h1; exact h1)
  have HF := Lib.hid (fun W (hb : Below w.heap.size w W) => by have h1 := xfar_any (h.mem.later hb) n; rw [farx_ix hn] at h1; exact h1)
  have HF2 := Lib.hid (fun W (hb : Below w.heap.size w W) => by have h1 := xfar_any (h.mem.later hb) ((f + l.length) % sz b); rw [end_farx h.mem] at h1; exact h1)
  have HF3 := Lib.hid (fun W (hb : Below w.heap.size w W) => by have h1 := xfar_any (h.mem.later hb) ((f + (c : Int)) % sz b); rw [h.stat_far] at h1; exact h1)
  have HR := Lib.hid h.mem.row
  have HW := Lib.hid h
  have HO := Lib.hid (fun W (hb : Below w.heap.size w W) => xopen_at (h.mem.later hb) hf (ix_back h.mem hn).symm)
  have HE := Lib.hid (show ∀ W, RxR W x m b size f ((f + (opn l (ix (sz b) f n) : Nat)) % sz b) l → RX W x m b size f (opn l (ix (sz b) f n)) l from fun W hW => ⟨hW, opn_le hf, h.h0, opn_at _⟩)
  have HST := Lib.hid (fun W (hb : Below w.heap.size w W) => (h.mem.later hb).stat (okn_mod h.mem.rt (f + (opn l (ix (sz b) f n) : Nat))))
  generalize ho : opn l (ix (sz b) f n) = o at *
  generalize (f + (l.length : Int)) % sz b = en at *
  generalize ix (sz b) f n = i at *
  generalize hL : l.length = L at *
  generalize (f + (o : Int)) % sz b = so at *
  generalize (f + (c : Int)) % sz b = st at *
  have hgi : ¬ ((L : Int) < i) := by omega
  clear h hn hf hL ho
  by_cases hc : c ≤ i
  · rw [if_pos hc]
    have hci : (c : Int) ≤ i := by omega
    go_enter Try.func53, Try.ntmps53
    go_wp2_with (first
      | (go_at_call 198; (with_reducible refine HM.out.mono ?_); rintro e w1 ⟨rfl, hb1⟩; (have HB1 := Lib.hid hb1; obtain ⟨c0, c1, c2, c3, c4, c5⟩ := xcells (HR.out.later HB1.out); clear hb1))
      | (go_at_call 185; (with_reducible refine (HI.out _).mono ?_); rintro e w2 ⟨rfl, hb2⟩; (have HB2 := Lib.hid (bl_drew (bl_step HB1.out hb2)); have HR2 := Lib.hid (HR.out.later HB2.out); have k0 := xc34 HR2.out; clear hb2 c0 c1 c2 c3 c4 c5)))
    go_region_held3 (fun w' => w'.cell? ⟨x, 3, none⟩ = some (.int .i64 st) ∧ w'.cell? ⟨x, 4, none⟩ = some (.int .i64 en)) (first | assumption | exact k0 | exact xc34 HR3.out | exact xc34 HR4.out | go_keep)
      (first
        | (go_at_call 55; (with_reducible refine (HF.out _ HB2.out).mono ?_); rintro e w3 ⟨rfl, hb3⟩; (have HB3 := Lib.hid (bl_step HB2.out hb3); have HR3 := Lib.hid (HR2.out.later hb3); clear hb3))
        | (go_at_call 55; (with_reducible refine (HF2.out _ HB3.out).mono ?_); rintro e w4 ⟨rfl, hb4⟩; (have HB4 := Lib.hid (bl_step HB3.out hb4); have HR4 := Lib.hid (HR3.out.later hb4); clear hb4)))
    have HB4d := Lib.hid (bl_drew HB4.out)
    have HR4d := Lib.hid (HR.out.later HB4d.out)
    have k4 := xc34 HR4d.out
    go_wp2
    go_region_held3 (fun w' => w'.cell? ⟨x, 3, none⟩ = some (.int .i64 st) ∧ w'.cell? ⟨x, 4, none⟩ = some (.int .i64 en)) (first | assumption | exact k4 | exact xc34 HR5.out | exact xc34 HR6.out | go_keep)
      (first
        | (go_at_call 55; (with_reducible refine (HF.out _ HB4d.out).mono ?_); rintro e w5 ⟨rfl, hb5⟩; (have HB5 := Lib.hid (bl_step HB4d.out hb5); have HR5 := Lib.hid (HR4d.out.later hb5); clear hb5))
        | (go_at_call 55; (with_reducible refine (HF3.out _ HB5.out).mono ?_); rintro e w6 ⟨rfl, hb6⟩; (have HB6 := Lib.hid (bl_step HB5.out hb6); have HR6 := Lib.hid (HR5.out.later hb6); clear hb6)))
    go_wp2_with (go_at_call 196; (with_reducible refine (HO.out _ HB6.out).mono ?_); rintro e w7 ⟨rfl, hb7⟩; (have HB7 := Lib.hid (bl_step HB6.out hb7); have HR7 := Lib.hid (HR6.out.later hb7); have f3 := HR7.out.free 3; have k7 := xc34 HR7.out; obtain ⟨k7a, k7b⟩ := k7; clear hb7))
    go_ret
    exact ⟨rfl, HE.out _ (HST.out _ HB7.out), (Only.of_below HB7.out).set (.inl (.inl rfl)) _⟩
  · rw [if_neg hc]
    have hci : ¬ ((c : Int) ≤ i) := by omega
    go_enter Try.func53, Try.ntmps53
    go_wp2_with (first
      | (go_at_call 198; (with_reducible refine HM.out.mono ?_); rintro e w1 ⟨rfl, hb1⟩; (have HB1 := Lib.hid hb1; obtain ⟨c0, c1, c2, c3, c4, c5⟩ := xcells (HR.out.later HB1.out); clear hb1))
      | (go_at_call 185; (with_reducible refine (HI.out _).mono ?_); rintro e w2 ⟨rfl, hb2⟩; (have HB2 := Lib.hid (bl_drew (bl_step HB1.out hb2)); have HR2 := Lib.hid (HR.out.later HB2.out); have k0 := xc34 HR2.out; clear hb2 c0 c1 c2 c3 c4 c5)))
    go_region_held3 (fun w' => w'.cell? ⟨x, 3, none⟩ = some (.int .i64 st) ∧ w'.cell? ⟨x, 4, none⟩ = some (.int .i64 en)) (first | assumption | exact k0 | exact xc34 HR3.out | exact xc34 HR4.out | go_keep)
      (first
        | (go_at_call 55; (with_reducible refine (HF.out _ HB2.out).mono ?_); rintro e w3 ⟨rfl, hb3⟩; (have HB3 := Lib.hid (bl_step HB2.out hb3); have HR3 := Lib.hid (HR2.out.later hb3); clear hb3))
        | (go_at_call 55; (with_reducible refine (HF2.out _ HB3.out).mono ?_); rintro e w4 ⟨rfl, hb4⟩; (have HB4 := Lib.hid (bl_step HB3.out hb4); have HR4 := Lib.hid (HR3.out.later hb4); clear hb4)))
    have HB4d := Lib.hid (bl_drew HB4.out)
    have HR4d := Lib.hid (HR.out.later HB4d.out)
    have k4 := xc34 HR4d.out
    go_wp2
    go_region_held3 (fun w' => w'.cell? ⟨x, 3, none⟩ = some (.int .i64 st) ∧ w'.cell? ⟨x, 4, none⟩ = some (.int .i64 en)) (first | assumption | exact k4 | exact xc34 HR5.out | exact xc34 HR6.out | go_keep)
      (first
        | (go_at_call 55; (with_reducible refine (HF.out _ HB4d.out).mono ?_); rintro e w5 ⟨rfl, hb5⟩; (have HB5 := Lib.hid (bl_step HB4d.out hb5); have HR5 := Lib.hid (HR4d.out.later hb5); clear hb5))
        | (go_at_call 55; (with_reducible refine (HF3.out _ HB5.out).mono ?_); rintro e w6 ⟨rfl, hb6⟩; (have HB6 := Lib.hid (bl_step HB5.out hb6); have HR6 := Lib.hid (HR5.out.later hb6); clear hb6)))
    go_wp2
    go_ret
    exact ⟨rfl, HW.out.later HB6.out, Only.of_below HB6.out⟩
end
end Go.Proofs.Ytgdpjaojlhdhdaa
