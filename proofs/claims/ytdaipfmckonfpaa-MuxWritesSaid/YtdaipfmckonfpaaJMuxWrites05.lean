/-
  mux: a block is read. mux: whatever bytes are read. mux: parts' numbers and bytes. mux: whether parts are equal. The document's answers for sums: More, Close, Open.
-/
import Derived.Test.YtdaipfmckonfpaaJMuxWrites04
import Derived.Deep.DeepCutAuto
import Derived.Test.YtdaipfmckonfpaaJMuxWrites03
import Derived.Test.YtdaipfmckonfpaaJMuxWrites02
namespace Go.Proofs.Ytdaipfmckonfpaa
open Go.RowKit

structure RdI (g : Nat) (d : List Nat) (w1 : World) (j off : Nat) (x : Value) (L : List PartM) (wr : World) : Prop where
  len : L.length = j
  own : wr.ownsRow w1.heap.size 57 2 x j (pcells L)
  inv : preadR 16 d = (L.map rkey ++ (preadR (16 - j) (d.drop off)).1, (preadR (16 - j) (d.drop off)).2)
  ok : ∀ m ∈ L, m.r.ok w1 ∧ 0 ≤ m.id
  row : Row w1 g 5 (bts d).toArray
  below : Below w1.heap.size w1 wr
section
variable {g j off : Nat} {d : List Nat} {w1 wr v : World} {x y : Value} {L : List PartM}
theorem RdI.src (h : RdI g d w1 j off x L wr) : Src wr (some ⟨g, off, none⟩) (bts (d.drop off)) := by
  rw [bts_drop]
  exact src_drop (h.row.later h.below)
theorem RdI.end (h : RdI g d w1 j off x L wr) (ho : d.length ≤ off) : preadR 16 d = (L.map rkey, 0) := by
  have h1 := h.inv
  rw [List.drop_of_length_le ho] at h1
  rw [h1]
  cases 16 - j <;> simp [preadR]
theorem RdI.many (h : RdI g d w1 16 off x L wr) (ho : off < d.length) : (preadR 16 d).2 = 2 := by
  rw [h.inv, Nat.sub_self]
  have : d.drop off ≠ [] := by simp; omega
  simp [preadR, this]
theorem RdI.fault (h : RdI g d w1 j off x L wr) (hj : j < 16) (ho : off < d.length) (hf : firstF (d.drop off) ≠ 0) : (preadR 16 d).2 = firstF (d.drop off) := by
  rw [h.inv, show 16 - j = (15 - j) + 1 by omega]
  have : d.drop off ≠ [] := by simp; omega
  simp [preadR, this, hf]
theorem RdI.next (h : RdI g d w1 j off x L wr) (hj : j < 16) (ho : off < d.length) (hf : firstF (d.drop off) = 0) (hb : ∀ b ∈ d, b < 256) (id q : Nat) (hi : hd16 (d.drop off) / 2048 = id) (hq : hd16 (d.drop off) % 2048 = q) (hwr : v.ownsRow w1.heap.size 57 2 y (j + 1) (pcells L ++ [.int .i64 id, .slice (some ⟨g, off + 2, none⟩) q q])) (hbl : Below w1.heap.size w1 v) :
    off + (2 + q) ≤ d.length ∧ 1 ≤ q ∧ RdI g d w1 (j + 1) (off + (2 + q)) y (L ++ [⟨id, ⟨some ⟨g, off + 2, none⟩, q, (d.drop (off + 2)).take q⟩⟩]) v := by
  have hne : d.drop off ≠ [] := by simp; omega
  have hff := hf
  rw [firstF_eq] at hf
  have h2 : 2 + q ≤ (d.drop off).length := by
    split at hf
    · cases hf
    · split at hf
      · cases hf
      · omega
  have hq1 : 1 ≤ q := by
    split at hf
    · cases hf
    · split at hf
      · cases hf
      · split at hf
        · cases hf
        · omega
  rw [List.length_drop] at h2
  have hl : ((d.drop (off + 2)).take q).length = q := by rw [List.length_take, List.length_drop]; omega
  refine ⟨by omega, hq1, ⟨by rw [List.length_append, h.len]; rfl, ?_, ?_, ?_, h.row, hbl⟩⟩
  · rw [pcells_snoc]
    simpa [RowB.v, hl] using hwr
  · rw [h.inv, show 16 - j = (15 - j) + 1 by omega]
    have e : preadR (15 - j + 1) (d.drop off) = ((id, (d.drop (off + 2)).take q) :: (preadR (15 - j) (d.drop (off + (2 + q)))).1, (preadR (15 - j) (d.drop (off + (2 + q)))).2) := by
      rw [preadR, if_neg hne, if_neg (by simpa using hff), hi, hq, List.drop_drop, List.drop_drop]
    rw [e, show 16 - (j + 1) = 15 - j by omega]
    simp [rkey]
  · intro m hm
    rcases List.mem_append.1 hm with hm | hm
    · exact h.ok m hm
    · simp at hm
      subst hm
      refine ⟨⟨?_, ?_, ?_, ?_⟩, by simp⟩
      · intro h0
        have hs := src_drop (m := off + 2) h.row
        rw [← bts_drop] at hs
        exact src_take q hs h0
      · rw [hl]; exact Nat.le_refl _
      · show q ≤ 9223372036854775807
        have := Nat.mod_lt (hd16 (d.drop off)) (show 0 < 2048 by omega)
        omega
      · exact fun b hb' => hb b (List.mem_of_mem_drop (List.mem_of_mem_take hb'))
end
theorem own_only_below2 {B : Nat} {w w' : World} {v : Value} {e n k : Nat} {xs : List Value} (h : w.ownsRow B e k v n xs) (ho : Only (fun k => v.ownBlock = some k) w w') (hB : B ≤ w.heap.size) : Below B w w' :=
  ho.below hB fun k hk hk' => by have := (h.lt k hk').1; omega
def ReadDone (w : World) (k : List (Nat × List Nat) × Int) (e : Ending) (w' : World) : Prop :=
  ∃ (A' : Option Addr) (j : Nat) (L : List PartM), e = .returned (.tuple #[.slice A' j j, .int .i64 k.2]) ∧ L.length = j ∧ L.map rkey = k.1 ∧ (∀ m ∈ L, 0 ≤ m.id) ∧ XSrc w' A' L ∧ Below w.heap.size w w'
theorem ReadDone.err {w w' : World} {k : List (Nat × List Nat) × Int} {f : Int} (hb : Below w.heap.size w w') (h1 : k.1 = []) (h2 : k.2 = f) : ReadDone w k (.returned (.tuple #[.slice none 0 0, .int .i64 f])) w' :=
  ⟨none, 0, [], by rw [h2], rfl, h1.symm, (fun m hm => by cases hm), (fun h0 => by simp at h0), hb⟩
def clear0 (k : List (Nat × List Nat) × Int) : List (Nat × List Nat) × Int := if k.2 = 0 then k else ([], k.2)
theorem clear0_no {k : List (Nat × List Nat) × Int} {f : Int} (h : k.2 = f) (hf : f ≠ 0) : (clear0 k).1 = [] ∧ (clear0 k).2 = f := by
  unfold clear0
  rw [if_neg (by rw [h]; exact hf)]
  exact ⟨rfl, h⟩
theorem clear0_yes {k : List (Nat × List Nat) × Int} (h : k.2 = 0) : clear0 k = k := by unfold clear0; rw [if_pos h]
def muR (a : Act) : Nat := match a.tmps.getD 4 undef with | .slice _ n _ => n | _ => 0
set_option maxRecDepth 100000 in
set_option maxHeartbeats 3200000 in
theorem mread_good {ad : Addr} {l : List Nat} (n hi lo cap : Nat) (w : World) (hn : l.length = n) (hm : n ≤ 4094) (hc : n + 2 ≤ cap) (hsrc : Src w (some ad) (bts (l ++ [hi, lo]))) (hb : ∀ b ∈ l, b < 256) (hh : hi < 256) (hl : lo < 256) (hs : more 65535 l = 256 * hi + lo) :
    Calls Try.prog 31 #[.slice (some ad) (n + 2 : Nat) cap] w (ReadDone w (clear0 (preadR 16 l))) := by
  have HO := Lib.hid (open_right n hi lo hn (by omega) hc w hsrc hb hh hl hs)
  have HN := Lib.hid hn
  have HBB := Lib.hid hb
  have hn' : ¬ (4096 : Int) < ((n + 2 : Nat) : Int) := by omega
  clear hsrc hb hs hn
  go_enter Try.func31, Try.ntmps31
  go_wp2
  refine wp_scope_through 0 (fun a' w' => ∃ (w1 : World) (g po j off rem : Nat) (x : Value) (L : List PartM), Fr [some (.slice (some ad) (n + 2 : Nat) cap), none, some (.slice none 0 0), some (.int .i64 0), some (.slice (some ⟨g, po, none⟩) rem rem), some (.int .i64 0), some x, none, none, none, none, none, none, none, none, none, none, none, none, none, none, none, none, none, none, none, none, none, none, none, none, none, none, none, none, none, none, none, none, none, none, none, none, none, none, none] a' ∧ j ≤ 16 ∧ off + rem = n ∧ (rem = 0 ∨ po = off) ∧ Hid (RdI g l w1 j off x L w') ∧ Hid (Below w.heap.size w w1)) (fun a' _ => muR a') rfl ?_ ?_
  · intro hrest
    go_wp2_with (go_at_call 84; (with_reducible refine HO.out.mono ?_); rintro e w1 ⟨g, rfl, hg, hrow, hb1⟩; (have HR1 := Lib.hid hrow; have HB1 := Lib.hid hb1; clear hrow hb1))
    go_step3
    rename_i Q9 K9 h9
    refine h9 _ _ (hrest _ _ ⟨w1, g, 0, 0, 0, n, .slice none 0 0, [], ?_, by omega, by omega, .inr rfl, Lib.hid ⟨rfl, World.ownsRow_nil _ _ _ _, by simp, (fun m hm => by cases hm), HR1.out, Below.refl _ _⟩, HB1⟩)
    simp only [Fr, Holes]
    repeat apply Exists.intro
    rfl
  · rintro a' w' ⟨w1, g, po, j, off, rem, x, L, hfr, hj, hor, hpo, HI, HB⟩
    simp only [Fr, Holes] at hfr
    repeat (obtain ⟨_, hfr⟩ := hfr)
    obtain ⟨Ax, cx, rfl, hc1, hc2, hc3⟩ : ∃ Ax cx, x = .slice Ax j cx ∧ j ≤ cx ∧ cx ≤ 9223372036854775807 ∧ (Ax = none → cx = 0) := by
      rcases HI.out.own.2 with ⟨rfl, h1⟩ | ⟨g9, c9, cur, rfl, _, _, h1, h2, _⟩
      · exact ⟨none, 0, by rw [h1], by omega, by omega, fun _ => rfl⟩
      · exact ⟨_, c9, rfl, h1, by unfold maxLen at h2; omega, fun h => by cases h⟩
    have HBW := Lib.hid (bl_step HB.out HI.out.below)
    by_cases hrem : rem = 0
    · have HE := Lib.hid (HI.out.end (by rw [HN.out]; omega))
      have hremI : ¬ (0 : Int) < (rem : Int) := by omega
      have HX := Lib.hid (own_xsrc HI.out.own (fun m hm => ((HI.out.ok m hm).1).later HI.out.below))
      have HL := Lib.hid HI.out.len
      have HK := Lib.hid (fun m hm => (HI.out.ok m hm).2)
      go_wp2_with (go_at_call 86; (with_reducible refine (mclip_any j cx _ hc1 hc2 hc3).mono ?_); rintro e w2 ⟨rfl, rfl⟩)
      simp only [Exit.jump]
      refine bodyPost_ret (v := .tuple #[.slice Ax j j, .int .i64 0]) (by simp [results, Try.results31, go_sem]) rfl ⟨Ax, j, L, ?_, HL.out, ?_, HK.out, HX.out, HBW.out⟩
      · rw [clear0_yes (by rw [HE.out]), HE.out]
      · rw [clear0_yes (by rw [HE.out]), HE.out]
    · have hremI : (0 : Int) < (rem : Int) := by omega
      obtain rfl : off = po := by omega
      clear hpo
      by_cases hj16 : j = 16
      · subst hj16
        have HE := Lib.hid (clear0_no (HI.out.many (by rw [HN.out]; omega)) (by omega))
        go_wp2
        simp only [Exit.jump]
        exact bodyPost_ret (v := .tuple #[.slice none 0 0, .int .i64 2]) (by simp [results, Try.results31, go_sem]) rfl (.err HBW.out HE.out.1 HE.out.2)
      · have hjI : ((j : Int) == 16) = false := by rw [beq_eq_false_iff_ne]; omega
        have HF := Lib.hid (first_any (b := g) (o := off) rem rem w' (by rw [List.length_drop, HN.out]; omega) (Nat.le_refl _) (by omega) HI.out.src (fun b hb => HBB.out b (List.mem_of_mem_drop hb)))
        by_cases hf : firstF (l.drop off) = 0
        · rw [hf, if_pos rfl] at HF
          obtain ⟨id, hid⟩ : ∃ id, hd16 (l.drop off) / 2048 = id := ⟨_, rfl⟩
          obtain ⟨q, hq⟩ : ∃ q, hd16 (l.drop off) % 2048 = q := ⟨_, rfl⟩
          rw [hid, hq] at HF
          have HNX := Lib.hid (fun y v a b => HI.out.next (y := y) (v := v) (by omega) (by rw [HN.out]; omega) hf HBB.out id q hid hq a b)
          have HI9 := Lib.hid HI.out.below
          have HOW := Lib.hid HI.out.own
          clear hid hq hf HI
          go_wp2_with fail
          refine HF.out.mono ?_
          rintro e w2 ⟨rfl, hb2⟩
          go_upto_region 11 with fail
          obtain ⟨W, hW⟩ : ∃ W, W = w2.alloc (.cells #[.int .i64 id, .slice (some ⟨g, off + 2, none⟩) q q] 57) := ⟨_, rfl⟩
          have hbW : Below w'.heap.size w' W := by rw [hW]; exact bl_alloc hb2 _
          obtain ⟨A2, c2, w3, hrun, hown, hon⟩ := own_next2 Try.underparts Try.infoparts rfl (by omega) (.int .i64 id) (.slice (some ⟨g, off + 2, none⟩) q q) rfl rfl (own_later2 HOW.out hbW) (Nat.le_trans HI9.out.size hbW.size) (by omega)
          have RB := Lib.hid (show Row W w2.heap.size 57 #[.int .i64 id, .slice (some ⟨g, off + 2, none⟩) q q] by rw [hW]; exact Row.made _ _ _)
          have RB3 := Lib.hid (RB.out.only hon (fun h => by have h1 := (HOW.out.lt _ h).2; have := hb2.size; omega))
          have c31 := RB3.out.read (i := 1) rfl
          have d0 := RB.out.read (i := 0) rfl
          have d1 := RB.out.read (i := 1) rfl
          have HB3 := Lib.hid (HI9.out.trans ((hbW.mono HI9.out.size).trans (own_only_below2 (own_later2 HOW.out hbW) hon (Nat.le_trans HI9.out.size hbW.size))))
          obtain ⟨hq1, hq2, HI4⟩ := HNX.out _ _ hown HB3.out
          have HI5 := Lib.hid HI4
          rw [HN.out] at hq1
          have hRUN := Lib.hid hrun
          clear HI4 hon hown hbW hb2 HNX
          rw [← hW]
          clear hW
          go_wp2_with (first
            | (at_builtin; refine wpList_is rfl (.tmp 34) (.tmp 36) 40 rfl _ _ (by rfl) (by rfl) hRUN.out ?_; clear hRUN))
          all_goals go_step3
          · refine ⟨rfl, ⟨w1, g, off, j + 1, _, 0, _, _, ?_, by omega, ?_, .inl rfl, HI5, HB⟩, ?_⟩
            · simp only [Fr, Holes]
              repeat apply Exists.intro
              rfl
            · omega
            · simp [muR]; omega
          · refine ⟨rfl, ⟨w1, g, off + (2 + q), j + 1, _, rem - (2 + q), _, _, ?_, by omega, ?_, .inr rfl, HI5, HB⟩, ?_⟩
            · simp only [Fr, Holes]
              repeat apply Exists.intro
              rfl
            · omega
            · simp [muR]; omega
        · have HE := Lib.hid (clear0_no (HI.out.fault (by omega) (by rw [HN.out]; omega) hf) hf)
          rw [if_neg hf] at HF
          have hfI : (firstF (l.drop off) != 0) = true := by simpa using hf
          generalize firstF (l.drop off) = fe at *
          have HR1 := Lib.hid (fun (W : World) => Row.made W 57 #[.int .i64 0, .slice none 0 0])
          unfold zpart at HF
          go_wp2_with (go_at_call 85; (with_reducible refine HF.out.mono ?_); rintro e w2 ⟨rfl, hb2⟩)
          simp only [Exit.jump]
          exact bodyPost_ret (v := .tuple #[.slice none 0 0, .int .i64 fe]) (by simp [results, Try.results31, go_sem]) rfl (.err (bl_alloc (bl_step HBW.out hb2) _) HE.out.1 HE.out.2)
end Go.Proofs.Ytdaipfmckonfpaa
namespace Go.Proofs.Ytdaipfmckonfpaa
open Go.RowKit

def readB (l : List Nat) : List (Nat × List Nat) × Int :=
  if 4096 < l.length then ([], 2) else if l.length < 2 then ([], 8) else
  if more 65535 (l.take (l.length - 2)) = 256 * l.getD (l.length - 2) 0 + l.getD (l.length - 1) 0 then clear0 (preadR 16 (l.take (l.length - 2))) else ([], 13)
theorem two_last {l : List Nat} (h : 2 ≤ l.length) : l = l.take (l.length - 2) ++ [l.getD (l.length - 2) 0, l.getD (l.length - 1) 0] := by
  have h1 : l.drop (l.length - 2) = [l.getD (l.length - 2) 0, l.getD (l.length - 1) 0] := by
    rw [List.drop_eq_getElem_cons (by omega), List.drop_eq_getElem_cons (by omega), List.drop_of_length_le (by omega)]
    rw [List.getD_eq_getElem?_getD, List.getD_eq_getElem?_getD, List.getElem?_eq_getElem (by omega), List.getElem?_eq_getElem (by omega)]
    simp only [Option.getD_some, List.cons.injEq, and_true, true_and]
    congr 1
    omega
  rw [← h1, List.take_append_drop]
set_option maxRecDepth 100000 in
set_option maxHeartbeats 800000 in
theorem mread_long {A : Option Addr} (n cap : Nat) (w : World) (hn : 4096 < n) :
    Calls Try.prog 31 #[.slice A n cap] w fun e w' => e = .returned (.tuple #[.slice none 0 0, .int .i64 2]) ∧ w = w' := by
  have hn' : (4096 : Int) < n := by omega
  go_enter Try.func31, Try.ntmps31
  go_wp2
  refine wp_scope_through 0 (fun _ _ => False) (fun a' _ => muR a') rfl ?_ ?_
  · intro hrest
    go_wp2
    try simp only [Exit.jump]
    exact bodyPost_ret (v := .tuple #[.slice none 0 0, .int .i64 2]) (by simp [results, Try.results31, go_sem]) rfl ⟨rfl, rfl⟩
  · intro a w h
    cases h
set_option maxRecDepth 100000 in
set_option maxHeartbeats 800000 in
theorem mread_bad {A : Option Addr} (n cap : Nat) (f : Int) (w : World) (hn : n ≤ 4096) (hf : f ≠ 0) (HO : Hid (Calls Try.prog 84 #[.slice A n cap] w fun e w' => e = .returned (.tuple #[.slice none 0 0, .int .i64 f]) ∧ Below w.heap.size w w')) :
    Calls Try.prog 31 #[.slice A n cap] w fun e w' => e = .returned (.tuple #[.slice none 0 0, .int .i64 f]) ∧ Below w.heap.size w w' := by
  have hn' : ¬ (4096 : Int) < n := by omega
  have hf' : (f != 0) = true := by simpa using hf
  go_enter Try.func31, Try.ntmps31
  go_wp2
  refine wp_scope_through 0 (fun _ _ => False) (fun a' _ => muR a') rfl ?_ ?_
  · intro hrest
    go_wp2_with (go_at_call 84; (with_reducible refine HO.out.mono ?_); rintro e w2 ⟨rfl, hb2⟩)
    try simp only [Exit.jump]
    exact bodyPost_ret (v := .tuple #[.slice none 0 0, .int .i64 f]) (by simp [results, Try.results31, go_sem]) rfl ⟨rfl, hb2⟩
  · intro a w h
    cases h
theorem mread_any {A : Option Addr} {l : List Nat} (n cap : Nat) (w : World) (hn : l.length = n) (hc : n ≤ cap) (hs : Src w A (bts l)) (hb : ∀ b ∈ l, b < 256) :
    Calls Try.prog 31 #[.slice A n cap] w (ReadDone w (readB l)) := by
  unfold readB
  rw [hn]
  by_cases h1 : 4096 < n
  · rw [if_pos h1]
    refine (mread_long n cap w h1).mono ?_
    rintro e w' ⟨rfl, rfl⟩
    exact .err (Below.refl _ _) rfl rfl
  · rw [if_neg h1]
    by_cases h2 : n < 2
    · rw [if_pos h2]
      refine (mread_bad n cap 8 w (by omega) (by omega) (Lib.hid ((open_short A n cap h2 w).mono ?_))).mono ?_
      · rintro e w' ⟨rfl, rfl⟩
        exact ⟨rfl, Below.refl _ _⟩
      · rintro e w' ⟨rfl, h⟩
        exact .err h rfl rfl
    · rw [if_neg h2]
      have ht := two_last (l := l) (by omega)
      rw [hn] at ht
      obtain ⟨k, rfl⟩ : ∃ k, n = k + 2 := ⟨n - 2, by omega⟩
      rw [show k + 2 - 2 = k by omega] at *
      generalize hdd : l.take k = d at *
      generalize hhi : l.getD k 0 = hi at *
      generalize hlo : l.getD (k + 2 - 1) 0 = lo at *
      have hd : d.length = k := by rw [← hdd, List.length_take]; omega
      have hbd : ∀ b ∈ d, b < 256 := fun b hb' => hb b (by rw [ht]; exact List.mem_append_left _ hb')
      have hbh : hi < 256 := hb hi (by rw [ht]; simp)
      have hbl : lo < 256 := hb lo (by rw [ht]; simp)
      obtain ⟨ad, rfl, _⟩ := hs (by rw [length_bts]; omega)
      rw [ht] at hs
      by_cases h3 : more 65535 d = 256 * hi + lo
      · rw [if_pos h3]
        exact mread_good k hi lo cap w hd (by omega) hc hs hbd hbh hbl h3
      · rw [if_neg h3]
        refine (mread_bad (k + 2) cap 13 w (by omega) (by omega) (Lib.hid (open_wrong k hi lo hd (by omega) hc w hs hbd hbh hbl h3))).mono ?_
        rintro e w' ⟨rfl, h⟩
        exact .err h rfl rfl
end Go.Proofs.Ytdaipfmckonfpaa
namespace Go.Proofs.Ytdaipfmckonfpaa
open Go.RowKit

def pk (m : PartM) : Int × List Nat := (m.id, m.r.bs)
def pks (L : List PartM) : List (Int × List Nat) := L.map pk
theorem length_pks (L : List PartM) : (pks L).length = L.length := by simp [pks]
theorem pks_at {L : List PartM} {k : Nat} {m : PartM} (h : L[k]? = some m) : (pks L)[k]? = some (pk m) := by simp [pks, h]
end Go.Proofs.Ytdaipfmckonfpaa
namespace Go.Proofs.Ytdaipfmckonfpaa
open Go.RowKit

set_option maxRecDepth 100000 in
set_option maxHeartbeats 1600000 in
theorem same1p_any (i1 i2 : Int) (r r' : RowB) (w : World) (hr : r.ok w) (hr' : r'.ok w) :
    Calls Try.prog 82 #[.agg #[.int .i64 i1, r.v], .agg #[.int .i64 i2, r'.v]] w fun e w' => e = .returned (.bool (decide (i1 = i2 ∧ r.bs = r'.bs))) ∧ Below w.heap.size w w' := by
  have hb0 : Below w.heap.size w ((w.alloc (.cells #[.int .i64 i1, r.v] 57)).alloc (.cells #[.int .i64 i2, r'.v] 57)) := bl_alloc (bl_alloc (Below.refl _ _) _) _
  have HE := Lib.hid (fun W (hb : Below w.heap.size w W) => equal_any r.bs.length r'.bs.length r.cap r'.cap W rfl rfl (src_later hr.1 hb) (src_later hr'.1 hb) hr.2.2.2 hr'.2.2.2)
  have HB := Lib.hid hb0
  have R2 := Row.made (w.alloc (.cells #[.int .i64 i1, r.v] 57)) 57 #[.int .i64 i2, r'.v]
  rw [show (w.alloc (.cells #[.int .i64 i1, r.v] 57)).heap.size = w.heap.size + 1 from Array.size_push ..] at R2
  have R1 := (Row.made w 57 #[.int .i64 i1, r.v]).more (.cells #[.int .i64 i2, r'.v] 57)
  have d0 := R1.read (i := 0) rfl
  have d1 := R1.read (i := 1) rfl
  have e0 := R2.read (i := 0) rfl
  have e1 := R2.read (i := 1) rfl
  clear hb0 hr hr' R1 R2
  by_cases hi : i1 = i2
  · have hiI : (i1 == i2) = true := by simp [hi]
    have hdd : decide (i1 = i2 ∧ r.bs = r'.bs) = decide (r.bs = r'.bs) := decide_eq_decide.2 ⟨fun h => h.2, fun h => ⟨hi, h⟩⟩
    rw [hdd]
    clear hi hdd
    generalize decide (r.bs = r'.bs) = q at *
    unfold RowB.v at *
    generalize r.bs.length = n1 at *
    generalize r'.bs.length = n2 at *
    go_enter Try.func82, Try.ntmps82
    go_wp2_with (go_at_call 83; (with_reducible refine (HE.out _ HB.out).mono ?_); rintro e w1 ⟨rfl, rfl⟩)
    go_ret
    exact ⟨rfl, HB.out⟩
  · have hiI : (i1 == i2) = false := by simp [hi]
    have hdd : decide (i1 = i2 ∧ r.bs = r'.bs) = false := decide_eq_false (fun h => hi h.1)
    rw [hdd]
    clear hi hdd
    unfold RowB.v at *
    go_enter Try.func82, Try.ntmps82
    go_wp2
    go_ret
    exact ⟨rfl, HB.out⟩
set_option maxRecDepth 100000 in
set_option maxHeartbeats 3200000 in
theorem meqf_any {A B : Option Addr} {L M : List PartM} (n m cap capb : Nat) (w : World) (hL : L.length = n) (hM : M.length = m) (hn : n ≤ 9223372036854775807) (hs : XSrc w A L) (hs' : XSrc w B M) :
    Calls Try.prog 81 #[.slice A n cap, .slice B m capb, .func (.func 82) #[] #[]] w fun e w' => e = .returned (.bool (decide (pks L = pks M))) ∧ Below w.heap.size w w' := by
  by_cases h : n = m
  · subst h
    have HS := Lib.hid hs
    have HS2 := Lib.hid hs'
    have HL := Lib.hid hL
    have HM := Lib.hid hM
    have hnn : ((n : Int) != (n : Int)) = false := by simp
    have HE := Lib.hid same1p_any
    clear hs hs' hL hM
    go_enter Try.func81, Try.ntmps81
    go_wp2
    go_loopw [17] (fun i wr => ∃ k : Nat, k ≤ n ∧ i = .int .i64 k ∧ Hid (∀ j, j < k → (pks L)[j]? = (pks M)[j]?) ∧ Hid (Below w.heap.size w wr)) (fun i _ => n - (intOf i).toNat)
    case atStart => exact ⟨0, by omega, rfl, Lib.hid (fun j hj => by omega), Lib.hid (Below.refl _ _)⟩
    case round =>
      obtain ⟨k, hk, rfl, HK, HB⟩ := hrel
      by_cases hlt : k < n
      · obtain ⟨ab, ao, rfl, hc⟩ := HS.out (by rw [HL.out]; omega)
        obtain ⟨bb, bo, rfl, hc'⟩ := HS2.out (by rw [HM.out]; omega)
        obtain ⟨⟨i1, r⟩, hr⟩ : ∃ r, L[k]? = some r := ⟨_, List.getElem?_eq_getElem (by rw [HL.out]; exact hlt)⟩
        obtain ⟨⟨i2, r'⟩, hr'⟩ : ∃ r, M[k]? = some r := ⟨_, List.getElem?_eq_getElem (by rw [HM.out]; exact hlt)⟩
        have c1 := cell_below HB.out (hc k _ hr).1
        have c2 := cell_below HB.out (hc k _ hr).2.1
        have k3 := cell_below HB.out (hc' k _ hr').1
        have k4 := cell_below HB.out (hc' k _ hr').2.1
        simp only at c1 c2 k3 k4
        have hb1 := bl_alloc (Below.refl wr.heap.size wr) (.cells #[.int .i64 i1, r.v] 57)
        have c3 := cell_below hb1 k3
        have c4 := cell_below hb1 k4
        have hb2 := bl_alloc hb1 (.cells #[.int .i64 i2, r'.v] 57)
        have R2 := Row.made (wr.alloc (.cells #[.int .i64 i1, r.v] 57)) 57 #[.int .i64 i2, r'.v]
        rw [show (wr.alloc (.cells #[.int .i64 i1, r.v] 57)).heap.size = wr.heap.size + 1 from Array.size_push ..] at R2
        have R1 := (Row.made wr 57 #[.int .i64 i1, r.v]).more (.cells #[.int .i64 i2, r'.v] 57)
        have d0 := R1.read (i := 0) rfl
        have d1 := R1.read (i := 1) rfl
        have d2 := R2.read (i := 0) rfl
        have d3 := R2.read (i := 1) rfl
        have ho := (hc k _ hr).2.2.later (bl_step HB.out hb2)
        have ho' := (hc' k _ hr').2.2.later (bl_step HB.out hb2)
        simp only at ho ho'
        have HB2 := Lib.hid (bl_step HB.out hb2)
        have HEE := Lib.hid (HE.out i1 i2 r r' _ ho ho')
        have hstep : i1 = i2 ∧ r.bs = r'.bs → ∀ j, j < k + 1 → (pks L)[j]? = (pks M)[j]? := fun he j hj => by
          rcases Nat.lt_or_ge j k with h2 | h2
          · exact HK.out j h2
          · obtain rfl : j = k := by omega
            rw [pks_at hr, pks_at hr']
            simp only [pk, he.1, he.2]
        have hdiff : ¬ (i1 = i2 ∧ r.bs = r'.bs) → pks L ≠ pks M := fun hd he => hd (by
          have h3 := pks_at hr
          rw [he, pks_at hr'] at h3
          injection h3 with h3
          simp only [pk, Prod.mk.injEq] at h3
          exact ⟨h3.1.symm, h3.2.symm⟩)
        have HST := Lib.hid hstep
        have HDF := Lib.hid hdiff
        have hkI : (k : Int) < (n : Int) := by omega
        have hk0 : (0 : Int) ≤ (k : Int) := by omega
        clear hc hc' hr hr' ho ho' hstep hdiff R1 R2 hb1 hb2 k3 k4
        by_cases he : i1 = i2 ∧ r.bs = r'.bs
        · rw [decide_eq_true he] at HEE
          have HX := Lib.hid (HST.out he)
          clear he
          unfold RowB.v at *
          generalize r.bs.length = n1 at *
          generalize r'.bs.length = n2 at *
          go_wp2_with (go_at_call 82; (with_reducible refine HEE.out.mono ?_); rintro e w1 ⟨rfl, hb⟩)
          go_roundw
          case rel => exact ⟨k + 1, by omega, by go_num, HX, Lib.hid (bl_step HB2.out hb)⟩
          case measure => simp [intOf]; omega
        · rw [decide_eq_false he] at HEE
          have HX := Lib.hid (HDF.out he)
          clear he
          unfold RowB.v at *
          generalize r.bs.length = n1 at *
          generalize r'.bs.length = n2 at *
          go_wp2_with (go_at_call 82; (with_reducible refine HEE.out.mono ?_); rintro e w1 ⟨rfl, hb⟩)
          go_ret
          exact ⟨by rw [decide_eq_false HX.out]; rfl, bl_step HB2.out hb⟩
      · have hkn : k = n := by omega
        have HA := Lib.hid (show pks L = pks M from List.ext_getElem? fun j => by
          rcases Nat.lt_or_ge j k with h2 | h2
          · exact HK.out j h2
          · rw [List.getElem?_eq_none (by rw [length_pks, HL.out]; omega), List.getElem?_eq_none (by rw [length_pks, HM.out]; omega)])
        clear hkn
        go_wp2
        go_ret
        exact ⟨by rw [decide_eq_true HA.out]; rfl, HB.out⟩
  · have HF := Lib.hid (show decide (pks L = pks M) = false from decide_eq_false fun h1 => h (by have := congrArg List.length h1; rw [length_pks, length_pks] at this; omega))
    have hnm : ((n : Int) != (m : Int)) = true := by simp; omega
    clear hL hM hs hs' h
    go_enter Try.func81, Try.ntmps81
    go_wp2
    go_ret
    exact ⟨by rw [HF.out]; rfl, Below.refl _ _⟩
theorem mSame_any {A B : Option Addr} {L M : List PartM} (n m cap capb : Nat) (w : World) (hL : L.length = n) (hM : M.length = m) (hn : n ≤ 9223372036854775807) (hs : XSrc w A L) (hs' : XSrc w B M) :
    Calls Try.prog 29 #[.slice A n cap, .slice B m capb] w fun e w' => e = .returned (.bool (decide (pks L = pks M))) ∧ Below w.heap.size w w' := by
  have HE := Lib.hid (meqf_any n m cap capb w hL hM hn hs hs')
  clear hL hM hs hs'
  generalize decide (pks L = pks M) = q at *
  go_enter Try.func29, Try.ntmps29
  go_wp2_with (go_at_call 81; (with_reducible refine HE.out.mono ?_); rintro e w1 ⟨rfl, hb⟩)
  go_ret
  exact ⟨rfl, hb⟩
end Go.Proofs.Ytdaipfmckonfpaa
namespace Go.Proofs.Ytdaipfmckonfpaa
open Go.RowKit

theorem T_low {s : Nat} (h : s < 32768) : T s = 2 * s := by rw [T_small h, Nat.mul_comm]
theorem T_high {s : Nat} (h : 32768 ≤ s) (h2 : s < 65536) : T s = (2 * s - 65536) ^^^ 4129 := by
  unfold T
  rw [show s / 32768 = 1 by omega, Nat.one_mul, show 2 * s % 65536 = 2 * s - 65536 by omega]
theorem mb_go32 (s x : Nat) (hs : s < 65536) (hx : x < 256) : bits .xor .u32 (s : Int) (256 * (x : Int)) = ((s ^^^ 256 * x : Nat) : Int) := by
  have h1 : 256 * (x : Int) = ((256 * x : Nat) : Int) := by omega
  rw [h1, u32_xor_nat _ _ (by omega) (by omega)]
theorem T_go32 (s : Nat) (h : 32768 ≤ s) (h2 : s < 65536) : bits .xor .u32 (2 * (s : Int) - 65536) 4129 = ((T s : Nat) : Int) := by
  have h1 : 2 * (s : Int) - 65536 = ((2 * s - 65536 : Nat) : Int) := by omega
  have h3 : (4129 : Int) = ((4129 : Nat) : Int) := rfl
  rw [h1, h3, u32_xor_nat _ _ (by omega) (by omega), T_high h h2]

set_option maxRecDepth 100000 in
set_option maxHeartbeats 1600000 in
theorem refmore_any {A : Option Addr} {cap : Nat} {l : List Nat} (s n : Nat) (hn : l.length = n) (hs : s < 65536) (hm : n ≤ maxLen) (w : World) (hsrc : Src w A (bts l)) (hb : ∀ b ∈ l, b < 256) :
    Calls Try.prog 138 #[.int .u16 s, .slice A n cap] w fun e w' => e = .returned (.int .u16 (more s l)) ∧ w = w' := by
  have HN := Lib.hid hn
  have HS := Lib.hid hsrc
  have HB := Lib.hid hb
  clear hn hsrc hb
  unfold maxLen at hm
  go_enter Try.func138, Try.ntmps138
  go_wp2
  go_loopw [5, 6] (fun v i wr => ∃ k m : Nat, k ≤ n ∧ m < 65536 ∧ v = .int .u32 m ∧ i = .int .i64 k ∧ Hid (m = more s (l.take k)) ∧ w = wr) (fun _ i _ => n - (intOf i).toNat)
  case atStart => exact ⟨0, s, by omega, hs, by first | rfl | go_num, rfl, rfl, rfl⟩
  case round =>
    obtain ⟨k, m, hk, hm', rfl, rfl, HQ, rfl⟩ := hrel
    by_cases hlt : k < n
    · have hkl : k < l.length := by have := HN.out; omega
      have hx : l[k]? = some l[k] := List.getElem?_eq_getElem hkl
      obtain ⟨ad, rfl, hc⟩ := HS.out (by rw [length_bts]; omega)
      have hcell := hc _ _ (bts_at hx)
      have hxb := HB.out _ (List.getElem_mem hkl)
      have hst := more_take_succ (s := s) hkl
      generalize l[k] = x at *
      have HST := Lib.hid hst
      have hg := mb_go32 m x hm' hxb
      have hlt2 : (k : Int) < (n : Int) := by omega
      have hk0 : (0 : Int) ≤ (k : Int) := by omega
      have hxl : m ^^^ 256 * x < 65536 := xor_lt' hm' (by omega)
      have HMB := Lib.hid (show mb m x = Tn 8 (m ^^^ 256 * x) from rfl)
      generalize m ^^^ 256 * x = z at *
      clear hc hx hst
      go_wp2
      go_loopw [5, 7] (fun v j wr => ∃ (q y : Nat), q ≤ 8 ∧ y < 65536 ∧ v = .int .u32 y ∧ j = .int .i64 q ∧ Hid (y = Tn q z) ∧ w = wr) (fun _ j _ => 8 - (intOf j).toNat)
      case atStart => exact ⟨0, z, by omega, hxl, by first | rfl | (rw [hg]), rfl, rfl, rfl⟩
      case round =>
        obtain ⟨q, y, hq, hy, rfl, rfl, HY, rfl⟩ := hrel
        rcases Nat.lt_or_ge q 8 with hq8 | hq8
        · rcases Nat.lt_or_ge y 32768 with hy1 | hy1
          · have HT := Lib.hid (T_low hy1)
            have hno : ¬ (65536 : Int) ≤ 2 * (y : Int) := by omega
            have hTl := T_lt hy
            go_wp2
            go_roundw
            case rel => exact ⟨q + 1, T y, by omega, hTl, by rw [HT.out]; go_num, by go_num, by rw [HY.out]; rfl, trivial⟩
            case measure => simp [intOf]; omega
          · have HT := Lib.hid (T_go32 y hy1 hy)
            have hyes : (65536 : Int) ≤ 2 * (y : Int) := by omega
            have hTl := T_lt hy
            go_wp2
            go_roundw
            case rel => exact ⟨q + 1, T y, by omega, hTl, by rw [← HT.out], by go_num, by rw [HY.out]; rfl, trivial⟩
            case measure => simp [intOf]; omega
        · obtain rfl : q = 8 := by omega
          go_wp2
          go_roundw
          case rel => exact ⟨k + 1, y, by omega, hy, rfl, by go_num, by rw [HY.out, HST.out, ← HQ.out, HMB.out]; exact Lib.hid rfl, trivial⟩
          case measure => simp [intOf]; omega
    · obtain rfl : k = n := by omega
      have HQ2 := Lib.hid (show m = more s l by rw [HQ.out, ← HN.out, List.take_length])
      go_wp2
      go_ret
      exact ⟨by rw [HQ2.out]; first | rfl | skip, rfl⟩

theorem run_append_emptyc {P : Program} (w : World) (t ty e : TypeId) (i : TypeInfo) (ht : P.underlying t = some (.slice e)) (hi : P.info? e = some i) (A : Option Addr) (c : Nat) :
    (Builtin.append_ #[t, t] ty #[.slice none 0 0, .slice A 0 c]).run P w = .ok (.slice none 0 0) w := by
  cases A <;> simp [Builtin.append_, run_underlying ht, sizeOf, typeInfo, hi, Builtin.lenOf, Builtin.firstCells, loadCells, loadCellsFrom]
theorem wpList_append_emptyc {P : Program} (w : World) {ops : Array Oper} {rest : List Oper} {o : Oper} {a : Act} {Q : Exit → Act → World → Prop} (hgd : o.guard = none) (s x : Operand) (t : TypeId)
    (ho : o.op = .call { callee := .builtin .append, args := #[s, x], argTypes := #[t, t] }) (e : TypeId) (i : TypeInfo) (ht : P.underlying t = some (.slice e)) (hi : P.info? e = some i)
    (hs : a.eval s = .slice none 0 0) (A : Option Addr) (c : Nat) (hx : a.eval x = .slice A 0 c) (h : wpList P ops Q rest (a.put o.dst (.slice none 0 0)) w) : wpList P ops Q (o :: rest) a w := by
  refine wpList_plain hgd fun K hK => ?_
  unfold Oper.wp execOp
  simp only [ho, resolve, invoke, builtin, Sem.run_bind, Sem.run_pure, Result.andThen_ok, List.map_toArray, List.map_cons, List.map_nil, hs, hx, run_append_emptyc w t o.type e i ht hi]
  exact hK _ _ h

theorem two_new (w : World) (u v : Value) : ∀ j x, [u, v][j]? = some x → (w.alloc (.cells #[u, v] 5)).cell? ((⟨w.heap.size, 0, none⟩ : Addr).add j) = some x := by
  intro j x hx
  rw [add_zero_addr]
  exact (Row.made w 5 #[u, v]).read (by simpa using hx)

theorem two_one8 (a b : Int) : ∀ u ∈ [Value.int .u8 a, .int .u8 b], u.oneCell' = true := by
  intro u hu
  simp at hu
  rcases hu with rfl | rfl <;> rfl

set_option maxRecDepth 100000 in
set_option maxHeartbeats 1600000 in
theorem refclose_any {A : Option Addr} {cap : Nat} {l : List Nat} (n : Nat) (hn : l.length = n) (hm : n ≤ 5000) (w : World) (hsrc : Src w A (bts l)) (hb : ∀ b ∈ l, b < 256) :
    Calls Try.prog 79 #[.slice A n cap] w fun e w' => ∃ x, e = .returned x ∧ w'.ownsRow w.heap.size 5 1 x (n + 2) (bts (closed l)) ∧ Below w.heap.size w w' := by
  obtain ⟨i0, hi, hi0, hi1, hi2⟩ := info5_parts
  have HC := Lib.hid (refmore_any (cap := cap) 65535 n hn (by omega) (by unfold maxLen; omega) w hsrc hb)
  have hlt := more_lt (s := 65535) (by omega) hb
  have HCL := Lib.hid (show closed l = l ++ [more 65535 l / 256, more 65535 l % 256] from rfl)
  generalize more 65535 l = s at *
  have HS := Lib.hid hsrc
  have hlen : (bts l).length = n := by rw [length_bts]; exact hn
  have HL := Lib.hid hlen
  have HN := Lib.hid hn
  have hu1 : IntKind.u8.wrap ((s : Int) / 256) = ((s / 256 : Nat) : Int) := by rw [IntKind.wrap_u8]; omega
  have hu2 : IntKind.u8.wrap ((s : Int) % 256) = ((s % 256 : Nat) : Int) := by rw [IntKind.wrap_u8]; omega
  clear hsrc hb hlen hn
  have hbt : bts [s / 256, s % 256] = [.int .u8 ((s : Int) / 256), .int .u8 ((s : Int) % 256)] := rfl
  have HBT := Lib.hid hbt
  clear hbt
  rcases Nat.eq_zero_or_pos n with h0 | h0
  · subst h0
    have HLN := Lib.hid (List.eq_nil_of_length_eq_zero HN.out)
    go_enter Try.func79, Try.ntmps79
    go_wp2_with (first
      | (go_at_call 138; refine HC.out.mono ?_; rintro e w1 ⟨rfl, rfl⟩)
      | (at_builtin; refine wpList_append_emptyc _ rfl _ _ _ (by rfl) 5 i0 Try.underlying42 hi (by rfl) A cap (by rfl) ?_)
      | (at_builtin; refine wpList_append_lies _ rfl _ _ _ (by rfl) w.heap.size 5 i0 (.int .u8 0) 1 1 Try.underlying42 hi hi0 hi1 hi2 rfl (by omega) (.slice none 0 0) 0 [] (by rfl) (World.ownsRow_nil _ _ _ _) ⟨w.heap.size, 0, none⟩ 2 2 [.int .u8 ((s : Int) / 256), .int .u8 ((s : Int) % 256)] (by rfl) (by rfl) (two_new _ _ _) (two_one8 _ _) (by omega) (by unfold maxLen; omega) (by omega) (by simp) (w.heap.size + 1) (by simp) ?_))
    intro g c2 w2 hown hgrow _ _
    have hb2 : Below w.heap.size w w2 := ((Below.refl w.heap.size w).alloc (Nat.le_refl _) _).grown hgrow (by simp) (fun r hr => by simp [Value.ownBlock] at hr)
    have HO := Lib.hid (show w2.ownsRow w.heap.size 5 1 (.slice (some ⟨g, 0, none⟩) 2 c2) 2 (bts (closed l)) by
      rw [HCL.out, HLN.out, List.nil_append, HBT.out]
      exact hown)
    clear hown hgrow
    go_wp2
    go_ret
    exact ⟨_, rfl, HO.out, hb2⟩
  · obtain ⟨ad, rfl, hcs⟩ := HS.out (by rw [HL.out]; exact h0)
    have HCS := Lib.hid hcs
    clear hcs
    go_enter Try.func79, Try.ntmps79
    go_wp2_with (first
      | (go_at_call 138; refine HC.out.mono ?_; rintro e w1 ⟨rfl, rfl⟩)
      | (at_builtin; refine wpList_append_lies _ rfl _ _ _ (by rfl) w.heap.size 5 i0 (.int .u8 0) 1 1 Try.underlying42 hi hi0 hi1 hi2 rfl (by omega) (.slice none 0 0) 0 [] (by rfl) (World.ownsRow_nil _ _ _ _) ad n cap (bts l) (by rfl) (by rw [HL.out, Nat.mul_one]) HCS.out (bts_one l) h0 (by unfold maxLen; omega) (by omega) (Nat.le_refl _) w.heap.size rfl ?_))
    intro g c1 w1 hown hgrow _ _
    have hb1 : Below w.heap.size w w1 := (Below.refl w.heap.size w).grown hgrow (Nat.le_refl _) (fun r hr => by simp [Value.ownBlock] at hr)
    have HO1 := Lib.hid hown
    have HB1 := Lib.hid hb1
    have hsz1 := hb1.size
    clear hown hgrow hb1
    go_wp2_with (at_builtin; refine wpList_append_lies _ rfl _ _ _ (by rfl) w.heap.size 5 i0 (.int .u8 0) 1 1 Try.underlying42 hi hi0 hi1 hi2 rfl (by omega) (.slice (some ⟨g, 0, none⟩) n c1) n (bts l) (by first | rfl | simp) (HO1.out.alloc _) ⟨w1.heap.size, 0, none⟩ 2 2 [.int .u8 ((s : Int) / 256), .int .u8 ((s : Int) % 256)] (by rfl) (by rfl) (two_new _ _ _) (two_one8 _ _) (by omega) (by unfold maxLen; omega) (by omega) (by simp; omega) (w1.heap.size + 1) (by simp) ?_)
    intro g2 c2 w2 hown hgrow _ _
    have hb2 : Below w.heap.size w w2 := (HB1.out.alloc hsz1 _).grown hgrow (by simp; omega) (fun r hr => (HO1.out.lt r hr).1)
    have HO := Lib.hid (show w2.ownsRow w.heap.size 5 1 (.slice (some ⟨g2, 0, none⟩) (n + 2) c2) (n + 2) (bts (closed l)) by
      rw [HCL.out, bts_append, HBT.out]
      exact hown)
    clear hown hgrow
    go_wp2
    go_ret
    exact ⟨_, rfl, HO.out, hb2⟩
end Go.Proofs.Ytdaipfmckonfpaa
