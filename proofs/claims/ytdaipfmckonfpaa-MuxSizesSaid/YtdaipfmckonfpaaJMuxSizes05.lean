/-
  mux: a block is read. mux: whatever bytes are read. mux: the fixed calls at the end of each statement come out as they should. mux: parts that are too much for a statement; parts as the document's. mux: parts' numbers and bytes. mux: parts go there and back: plain lists.
-/
import Derived.Test.YtdaipfmckonfpaaJMuxSizes04
import Derived.Deep.DeepCutAuto
import Derived.Lib.SlBytesConst
import Derived.Test.YtdaipfmckonfpaaJMuxSizes02
namespace Go.Proofs.Ytdaipfmckonfpaa
open Go.RowKit

structure RdI (g : Nat) (d : List Nat) (w1 : World) (j off : Nat) (x : Value) (L : List PartM) (wr : World) : Prop where
  len : L.length = j
  own : wr.ownsRow w1.heap.size 57 2 x j (pcells L)
  inv : preadR 16 d = (L.map rkey ++ (preadR (16 - j) (d.drop off)).1, (preadR (16 - j) (d.drop off)).2)
  ok : ∀ m ∈ L, m.r.ok w1 ∧ 0 ≤ m.id
  row : Row w1 g 5 (bts d).toArray
  below : Below w1.heap.size w1 wr
section
variable {g j off : Nat} {d : List Nat} {w1 wr v : World} {x y : Value} {L : List PartM}
theorem RdI.src (h : RdI g d w1 j off x L wr) : Src wr (some ⟨g, off, none⟩) (bts (d.drop off)) := by
  rw [bts_drop]
  exact src_drop (h.row.later h.below)
theorem RdI.end (h : RdI g d w1 j off x L wr) (ho : d.length ≤ off) : preadR 16 d = (L.map rkey, 0) := by
  have h1 := h.inv
  rw [List.drop_of_length_le ho] at h1
  rw [h1]
  cases 16 - j <;> simp [preadR]
theorem RdI.many (h : RdI g d w1 16 off x L wr) (ho : off < d.length) : (preadR 16 d).2 = 2 := by
  rw [h.inv, Nat.sub_self]
  have : d.drop off ≠ [] := by simp; omega
  simp [preadR, this]
theorem RdI.fault (h : RdI g d w1 j off x L wr) (hj : j < 16) (ho : off < d.length) (hf : firstF (d.drop off) ≠ 0) : (preadR 16 d).2 = firstF (d.drop off) := by
  rw [h.inv, show 16 - j = (15 - j) + 1 by omega]
  have : d.drop off ≠ [] := by simp; omega
  simp [preadR, this, hf]
theorem RdI.next (h : RdI g d w1 j off x L wr) (hj : j < 16) (ho : off < d.length) (hf : firstF (d.drop off) = 0) (hb : ∀ b ∈ d, b < 256) (id q : Nat) (hi : hd16 (d.drop off) / 2048 = id) (hq : hd16 (d.drop off) % 2048 = q) (hwr : v.ownsRow w1.heap.size 57 2 y (j + 1) (pcells L ++ [.int .i64 id, .slice (some ⟨g, off + 2, none⟩) q q])) (hbl : Below w1.heap.size w1 v) :
    off + (2 + q) ≤ d.length ∧ 1 ≤ q ∧ RdI g d w1 (j + 1) (off + (2 + q)) y (L ++ [⟨id, ⟨some ⟨g, off + 2, none⟩, q, (d.drop (off + 2)).take q⟩⟩]) v := by
  have hne : d.drop off ≠ [] := by simp; omega
  have hff := hf
  rw [firstF_eq] at hf
  have h2 : 2 + q ≤ (d.drop off).length := by
    split at hf
    · cases hf
    · split at hf
      · cases hf
      · omega
  have hq1 : 1 ≤ q := by
    split at hf
    · cases hf
    · split at hf
      · cases hf
      · split at hf
        · cases hf
        · omega
  rw [List.length_drop] at h2
  have hl : ((d.drop (off + 2)).take q).length = q := by rw [List.length_take, List.length_drop]; omega
  refine ⟨by omega, hq1, ⟨by rw [List.length_append, h.len]; rfl, ?_, ?_, ?_, h.row, hbl⟩⟩
  · rw [pcells_snoc]
    simpa [RowB.v, hl] using hwr
  · rw [h.inv, show 16 - j = (15 - j) + 1 by omega]
    have e : preadR (15 - j + 1) (d.drop off) = ((id, (d.drop (off + 2)).take q) :: (preadR (15 - j) (d.drop (off + (2 + q)))).1, (preadR (15 - j) (d.drop (off + (2 + q)))).2) := by
      rw [preadR, if_neg hne, if_neg (by simpa using hff), hi, hq, List.drop_drop, List.drop_drop]
    rw [e, show 16 - (j + 1) = 15 - j by omega]
    simp [rkey]
  · intro m hm
    rcases List.mem_append.1 hm with hm | hm
    · exact h.ok m hm
    · simp at hm
      subst hm
      refine ⟨⟨?_, ?_, ?_, ?_⟩, by simp⟩
      · intro h0
        have hs := src_drop (m := off + 2) h.row
        rw [← bts_drop] at hs
        exact src_take q hs h0
      · rw [hl]; exact Nat.le_refl _
      · show q ≤ 9223372036854775807
        have := Nat.mod_lt (hd16 (d.drop off)) (show 0 < 2048 by omega)
        omega
      · exact fun b hb' => hb b (List.mem_of_mem_drop (List.mem_of_mem_take hb'))
end
theorem own_only_below2 {B : Nat} {w w' : World} {v : Value} {e n k : Nat} {xs : List Value} (h : w.ownsRow B e k v n xs) (ho : Only (fun k => v.ownBlock = some k) w w') (hB : B ≤ w.heap.size) : Below B w w' :=
  ho.below hB fun k hk hk' => by have := (h.lt k hk').1; omega
def ReadDone (w : World) (k : List (Nat × List Nat) × Int) (e : Ending) (w' : World) : Prop :=
  ∃ (A' : Option Addr) (j : Nat) (L : List PartM), e = .returned (.tuple #[.slice A' j j, .int .i64 k.2]) ∧ L.length = j ∧ L.map rkey = k.1 ∧ (∀ m ∈ L, 0 ≤ m.id) ∧ XSrc w' A' L ∧ Below w.heap.size w w'
theorem ReadDone.err {w w' : World} {k : List (Nat × List Nat) × Int} {f : Int} (hb : Below w.heap.size w w') (h1 : k.1 = []) (h2 : k.2 = f) : ReadDone w k (.returned (.tuple #[.slice none 0 0, .int .i64 f])) w' :=
  ⟨none, 0, [], by rw [h2], rfl, h1.symm, (fun m hm => by cases hm), (fun h0 => by simp at h0), hb⟩
def clear0 (k : List (Nat × List Nat) × Int) : List (Nat × List Nat) × Int := if k.2 = 0 then k else ([], k.2)
theorem clear0_no {k : List (Nat × List Nat) × Int} {f : Int} (h : k.2 = f) (hf : f ≠ 0) : (clear0 k).1 = [] ∧ (clear0 k).2 = f := by
  unfold clear0
  rw [if_neg (by rw [h]; exact hf)]
  exact ⟨rfl, h⟩
theorem clear0_yes {k : List (Nat × List Nat) × Int} (h : k.2 = 0) : clear0 k = k := by unfold clear0; rw [if_pos h]
def muR (a : Act) : Nat := match a.tmps.getD 4 undef with | .slice _ n _ => n | _ => 0
set_option maxRecDepth 100000 in
set_option maxHeartbeats 3200000 in
theorem mread_good {ad : Addr} {l : List Nat} (n hi lo cap : Nat) (w : World) (hn : l.length = n) (hm : n ≤ 4094) (hc : n + 2 ≤ cap) (hsrc : Src w (some ad) (bts (l ++ [hi, lo]))) (hb : ∀ b ∈ l, b < 256) (hh : hi < 256) (hl : lo < 256) (hs : more 65535 l = 256 * hi + lo) :
    Calls Try.prog 31 #[.slice (some ad) (n + 2 : Nat) cap] w (ReadDone w (clear0 (preadR 16 l))) := by
  have HO := Lib.hid (open_right n hi lo hn (by omega) hc w hsrc hb hh hl hs)
  have HN := Lib.hid hn
  have HBB := Lib.hid hb
  have hn' : ¬ (4096 : Int) < ((n + 2 : Nat) : Int) := by omega
  clear hsrc hb hs hn
  go_enter Try.func31, Try.ntmps31
  go_wp2
  refine wp_scope_through 0 (fun a' w' => ∃ (w1 : World) (g po j off rem : Nat) (x : Value) (L : List PartM), Fr [some (.slice (some ad) (n + 2 : Nat) cap), none, some (.slice none 0 0), some (.int .i64 0), some (.slice (some ⟨g, po, none⟩) rem rem), some (.int .i64 0), some x, none, none, none, none, none, none, none, none, none, none, none, none, none, none, none, none, none, none, none, none, none, none, none, none, none, none, none, none, none, none, none, none, none, none, none, none, none, none, none] a' ∧ j ≤ 16 ∧ off + rem = n ∧ (rem = 0 ∨ po = off) ∧ Hid (RdI g l w1 j off x L w') ∧ Hid (Below w.heap.size w w1)) (fun a' _ => muR a') rfl ?_ ?_
  · intro hrest
    go_wp2_with (go_at_call 84; (with_reducible refine HO.out.mono ?_); rintro e w1 ⟨g, rfl, hg, hrow, hb1⟩; (have HR1 := Lib.hid hrow; have HB1 := Lib.hid hb1; clear hrow hb1))
    go_step3
    rename_i Q9 K9 h9
    refine h9 _ _ (hrest _ _ ⟨w1, g, 0, 0, 0, n, .slice none 0 0, [], ?_, by omega, by omega, .inr rfl, Lib.hid ⟨rfl, World.ownsRow_nil _ _ _ _, by simp, (fun m hm => by cases hm), HR1.out, Below.refl _ _⟩, HB1⟩)
    simp only [Fr, Holes]
    repeat apply Exists.intro
    rfl
  · rintro a' w' ⟨w1, g, po, j, off, rem, x, L, hfr, hj, hor, hpo, HI, HB⟩
    simp only [Fr, Holes] at hfr
    repeat (obtain ⟨_, hfr⟩ := hfr)
    obtain ⟨Ax, cx, rfl, hc1, hc2, hc3⟩ : ∃ Ax cx, x = .slice Ax j cx ∧ j ≤ cx ∧ cx ≤ 9223372036854775807 ∧ (Ax = none → cx = 0) := by
      rcases HI.out.own.2 with ⟨rfl, h1⟩ | ⟨g9, c9, cur, rfl, _, _, h1, h2, _⟩
      · exact ⟨none, 0, by rw [h1], by omega, by omega, fun _ => rfl⟩
      · exact ⟨_, c9, rfl, h1, by unfold maxLen at h2; omega, fun h => by cases h⟩
    have HBW := Lib.hid (bl_step HB.out HI.out.below)
    by_cases hrem : rem = 0
    · have HE := Lib.hid (HI.out.end (by rw [HN.out]; omega))
      have hremI : ¬ (0 : Int) < (rem : Int) := by omega
      have HX := Lib.hid (own_xsrc HI.out.own (fun m hm => ((HI.out.ok m hm).1).later HI.out.below))
      have HL := Lib.hid HI.out.len
      have HK := Lib.hid (fun m hm => (HI.out.ok m hm).2)
      go_wp2_with (go_at_call 86; (with_reducible refine (mclip_any j cx _ hc1 hc2 hc3).mono ?_); rintro e w2 ⟨rfl, rfl⟩)
      simp only [Exit.jump]
      refine bodyPost_ret (v := .tuple #[.slice Ax j j, .int .i64 0]) (by simp [results, Try.results31, go_sem]) rfl ⟨Ax, j, L, ?_, HL.out, ?_, HK.out, HX.out, HBW.out⟩
      · rw [clear0_yes (by rw [HE.out]), HE.out]
      · rw [clear0_yes (by rw [HE.out]), HE.out]
    · have hremI : (0 : Int) < (rem : Int) := by omega
      obtain rfl : off = po := by omega
      clear hpo
      by_cases hj16 : j = 16
      · subst hj16
        have HE := Lib.hid (clear0_no (HI.out.many (by rw [HN.out]; omega)) (by omega))
        go_wp2
        simp only [Exit.jump]
        exact bodyPost_ret (v := .tuple #[.slice none 0 0, .int .i64 2]) (by simp [results, Try.results31, go_sem]) rfl (.err HBW.out HE.out.1 HE.out.2)
      · have hjI : ((j : Int) == 16) = false := by rw [beq_eq_false_iff_ne]; omega
        have HF := Lib.hid (first_any (b := g) (o := off) rem rem w' (by rw [List.length_drop, HN.out]; omega) (Nat.le_refl _) (by omega) HI.out.src (fun b hb => HBB.out b (List.mem_of_mem_drop hb)))
        by_cases hf : firstF (l.drop off) = 0
        · rw [hf, if_pos rfl] at HF
          obtain ⟨id, hid⟩ : ∃ id, hd16 (l.drop off) / 2048 = id := ⟨_, rfl⟩
          obtain ⟨q, hq⟩ : ∃ q, hd16 (l.drop off) % 2048 = q := ⟨_, rfl⟩
          rw [hid, hq] at HF
          have HNX := Lib.hid (fun y v a b => HI.out.next (y := y) (v := v) (by omega) (by rw [HN.out]; omega) hf HBB.out id q hid hq a b)
          have HI9 := Lib.hid HI.out.below
          have HOW := Lib.hid HI.out.own
          clear hid hq hf HI
          go_wp2_with fail
          refine HF.out.mono ?_
          rintro e w2 ⟨rfl, hb2⟩
          go_upto_region 11 with fail
          obtain ⟨W, hW⟩ : ∃ W, W = w2.alloc (.cells #[.int .i64 id, .slice (some ⟨g, off + 2, none⟩) q q] 57) := ⟨_, rfl⟩
          have hbW : Below w'.heap.size w' W := by rw [hW]; exact bl_alloc hb2 _
          obtain ⟨A2, c2, w3, hrun, hown, hon⟩ := own_next2 Try.underparts Try.infoparts rfl (by omega) (.int .i64 id) (.slice (some ⟨g, off + 2, none⟩) q q) rfl rfl (own_later2 HOW.out hbW) (Nat.le_trans HI9.out.size hbW.size) (by omega)
          have RB := Lib.hid (show Row W w2.heap.size 57 #[.int .i64 id, .slice (some ⟨g, off + 2, none⟩) q q] by rw [hW]; exact Row.made _ _ _)
          have RB3 := Lib.hid (RB.out.only hon (fun h => by have h1 := (HOW.out.lt _ h).2; have := hb2.size; omega))
          have c31 := RB3.out.read (i := 1) rfl
          have d0 := RB.out.read (i := 0) rfl
          have d1 := RB.out.read (i := 1) rfl
          have HB3 := Lib.hid (HI9.out.trans ((hbW.mono HI9.out.size).trans (own_only_below2 (own_later2 HOW.out hbW) hon (Nat.le_trans HI9.out.size hbW.size))))
          obtain ⟨hq1, hq2, HI4⟩ := HNX.out _ _ hown HB3.out
          have HI5 := Lib.hid HI4
          rw [HN.out] at hq1
          have hRUN := Lib.hid hrun
          clear HI4 hon hown hbW hb2 HNX
          rw [← hW]
          clear hW
          go_wp2_with (first
            | (at_builtin; refine wpList_is rfl (.tmp 34) (.tmp 36) 40 rfl _ _ (by rfl) (by rfl) hRUN.out ?_; clear hRUN))
          all_goals go_step3
          · refine ⟨rfl, ⟨w1, g, off, j + 1, _, 0, _, _, ?_, by omega, ?_, .inl rfl, HI5, HB⟩, ?_⟩
            · simp only [Fr, Holes]
              repeat apply Exists.intro
              rfl
            · omega
            · simp [muR]; omega
          · refine ⟨rfl, ⟨w1, g, off + (2 + q), j + 1, _, rem - (2 + q), _, _, ?_, by omega, ?_, .inr rfl, HI5, HB⟩, ?_⟩
            · simp only [Fr, Holes]
              repeat apply Exists.intro
              rfl
            · omega
            · simp [muR]; omega
        · have HE := Lib.hid (clear0_no (HI.out.fault (by omega) (by rw [HN.out]; omega) hf) hf)
          rw [if_neg hf] at HF
          have hfI : (firstF (l.drop off) != 0) = true := by simpa using hf
          generalize firstF (l.drop off) = fe at *
          have HR1 := Lib.hid (fun (W : World) => Row.made W 57 #[.int .i64 0, .slice none 0 0])
          unfold zpart at HF
          go_wp2_with (go_at_call 85; (with_reducible refine HF.out.mono ?_); rintro e w2 ⟨rfl, hb2⟩)
          simp only [Exit.jump]
          exact bodyPost_ret (v := .tuple #[.slice none 0 0, .int .i64 fe]) (by simp [results, Try.results31, go_sem]) rfl (.err (bl_alloc (bl_step HBW.out hb2) _) HE.out.1 HE.out.2)
end Go.Proofs.Ytdaipfmckonfpaa
namespace Go.Proofs.Ytdaipfmckonfpaa
open Go.RowKit

def readB (l : List Nat) : List (Nat × List Nat) × Int :=
  if 4096 < l.length then ([], 2) else if l.length < 2 then ([], 8) else
  if more 65535 (l.take (l.length - 2)) = 256 * l.getD (l.length - 2) 0 + l.getD (l.length - 1) 0 then clear0 (preadR 16 (l.take (l.length - 2))) else ([], 13)
theorem two_last {l : List Nat} (h : 2 ≤ l.length) : l = l.take (l.length - 2) ++ [l.getD (l.length - 2) 0, l.getD (l.length - 1) 0] := by
  have h1 : l.drop (l.length - 2) = [l.getD (l.length - 2) 0, l.getD (l.length - 1) 0] := by
    rw [List.drop_eq_getElem_cons (by omega), List.drop_eq_getElem_cons (by omega), List.drop_of_length_le (by omega)]
    rw [List.getD_eq_getElem?_getD, List.getD_eq_getElem?_getD, List.getElem?_eq_getElem (by omega), List.getElem?_eq_getElem (by omega)]
    simp only [Option.getD_some, List.cons.injEq, and_true, true_and]
    congr 1
    omega
  rw [← h1, List.take_append_drop]
set_option maxRecDepth 100000 in
set_option maxHeartbeats 800000 in
theorem mread_long {A : Option Addr} (n cap : Nat) (w : World) (hn : 4096 < n) :
    Calls Try.prog 31 #[.slice A n cap] w fun e w' => e = .returned (.tuple #[.slice none 0 0, .int .i64 2]) ∧ w = w' := by
  have hn' : (4096 : Int) < n := by omega
  go_enter Try.func31, Try.ntmps31
  go_wp2
  refine wp_scope_through 0 (fun _ _ => False) (fun a' _ => muR a') rfl ?_ ?_
  · intro hrest
    go_wp2
    try simp only [Exit.jump]
    exact bodyPost_ret (v := .tuple #[.slice none 0 0, .int .i64 2]) (by simp [results, Try.results31, go_sem]) rfl ⟨rfl, rfl⟩
  · intro a w h
    cases h
set_option maxRecDepth 100000 in
set_option maxHeartbeats 800000 in
theorem mread_bad {A : Option Addr} (n cap : Nat) (f : Int) (w : World) (hn : n ≤ 4096) (hf : f ≠ 0) (HO : Hid (Calls Try.prog 84 #[.slice A n cap] w fun e w' => e = .returned (.tuple #[.slice none 0 0, .int .i64 f]) ∧ Below w.heap.size w w')) :
    Calls Try.prog 31 #[.slice A n cap] w fun e w' => e = .returned (.tuple #[.slice none 0 0, .int .i64 f]) ∧ Below w.heap.size w w' := by
  have hn' : ¬ (4096 : Int) < n := by omega
  have hf' : (f != 0) = true := by simpa using hf
  go_enter Try.func31, Try.ntmps31
  go_wp2
  refine wp_scope_through 0 (fun _ _ => False) (fun a' _ => muR a') rfl ?_ ?_
  · intro hrest
    go_wp2_with (go_at_call 84; (with_reducible refine HO.out.mono ?_); rintro e w2 ⟨rfl, hb2⟩)
    try simp only [Exit.jump]
    exact bodyPost_ret (v := .tuple #[.slice none 0 0, .int .i64 f]) (by simp [results, Try.results31, go_sem]) rfl ⟨rfl, hb2⟩
  · intro a w h
    cases h
theorem mread_any {A : Option Addr} {l : List Nat} (n cap : Nat) (w : World) (hn : l.length = n) (hc : n ≤ cap) (hs : Src w A (bts l)) (hb : ∀ b ∈ l, b < 256) :
    Calls Try.prog 31 #[.slice A n cap] w (ReadDone w (readB l)) := by
  unfold readB
  rw [hn]
  by_cases h1 : 4096 < n
  · rw [if_pos h1]
    refine (mread_long n cap w h1).mono ?_
    rintro e w' ⟨rfl, rfl⟩
    exact .err (Below.refl _ _) rfl rfl
  · rw [if_neg h1]
    by_cases h2 : n < 2
    · rw [if_pos h2]
      refine (mread_bad n cap 8 w (by omega) (by omega) (Lib.hid ((open_short A n cap h2 w).mono ?_))).mono ?_
      · rintro e w' ⟨rfl, rfl⟩
        exact ⟨rfl, Below.refl _ _⟩
      · rintro e w' ⟨rfl, h⟩
        exact .err h rfl rfl
    · rw [if_neg h2]
      have ht := two_last (l := l) (by omega)
      rw [hn] at ht
      obtain ⟨k, rfl⟩ : ∃ k, n = k + 2 := ⟨n - 2, by omega⟩
      rw [show k + 2 - 2 = k by omega] at *
      generalize hdd : l.take k = d at *
      generalize hhi : l.getD k 0 = hi at *
      generalize hlo : l.getD (k + 2 - 1) 0 = lo at *
      have hd : d.length = k := by rw [← hdd, List.length_take]; omega
      have hbd : ∀ b ∈ d, b < 256 := fun b hb' => hb b (by rw [ht]; exact List.mem_append_left _ hb')
      have hbh : hi < 256 := hb hi (by rw [ht]; simp)
      have hbl : lo < 256 := hb lo (by rw [ht]; simp)
      obtain ⟨ad, rfl, _⟩ := hs (by rw [length_bts]; omega)
      rw [ht] at hs
      by_cases h3 : more 65535 d = 256 * hi + lo
      · rw [if_pos h3]
        exact mread_good k hi lo cap w hd (by omega) hc hs hbd hbh hbl h3
      · rw [if_neg h3]
        refine (mread_bad (k + 2) cap 13 w (by omega) (by omega) (Lib.hid (open_wrong k hi lo hd (by omega) hc w hs hbd hbh hbl h3))).mono ?_
        rintro e w' ⟨rfl, h⟩
        exact .err h rfl rfl
end Go.Proofs.Ytdaipfmckonfpaa
namespace Go.Proofs.Ytdaipfmckonfpaa
open Go.RowKit

theorem xsrc_two {w : World} {g g1 g2 c1 c2 : Nat} {l1 l2 : List Nat} (i1 i2 : Int) (h1 : Src w (some ⟨g1, 0, none⟩) (bts l1)) (h2 : Src w (some ⟨g2, 0, none⟩) (bts l2)) (h3 : Row w g 57 #[.int .i64 i1, .slice (some ⟨g1, 0, none⟩) l1.length c1, .int .i64 i2, .slice (some ⟨g2, 0, none⟩) l2.length c2])
    (hc1 : l1.length ≤ c1 ∧ c1 ≤ 9223372036854775807) (hc2 : l2.length ≤ c2 ∧ c2 ≤ 9223372036854775807) (hb1 : ∀ b ∈ l1, b < 256) (hb2 : ∀ b ∈ l2, b < 256) :
    XSrc w (some ⟨g, 0, none⟩) [⟨i1, ⟨some ⟨g1, 0, none⟩, c1, l1⟩⟩, ⟨i2, ⟨some ⟨g2, 0, none⟩, c2, l2⟩⟩] := by
  intro _
  refine ⟨g, 0, rfl, fun k m hm => ?_⟩
  match k, hm with
  | 0, hm =>
    simp at hm
    subst hm
    exact ⟨h3.read (i := 0) rfl, h3.read (i := 1) rfl, h1, hc1.1, hc1.2, hb1⟩
  | 1, hm =>
    simp at hm
    subst hm
    exact ⟨h3.read (i := 2) rfl, h3.read (i := 3) rfl, h2, hc2.1, hc2.2, hb2⟩
  | k + 2, hm => simp at hm
theorem xsrc_one {w : World} {g g1 c1 : Nat} {l1 : List Nat} (i1 : Int) (h1 : Src w (some ⟨g1, 0, none⟩) (bts l1)) (h3 : Row w g 57 #[.int .i64 i1, .slice (some ⟨g1, 0, none⟩) l1.length c1])
    (hc1 : l1.length ≤ c1 ∧ c1 ≤ 9223372036854775807) (hb1 : ∀ b ∈ l1, b < 256) : XSrc w (some ⟨g, 0, none⟩) [⟨i1, ⟨some ⟨g1, 0, none⟩, c1, l1⟩⟩] := by
  intro _
  refine ⟨g, 0, rfl, fun k m hm => ?_⟩
  match k, hm with
  | 0, hm =>
    simp at hm
    subst hm
    exact ⟨h3.read (i := 0) rfl, h3.read (i := 1) rfl, h1, hc1.1, hc1.2, hb1⟩
  | k + 1, hm => simp at hm
def bl9 : List Nat := [24, 2, 97, 98, 32, 1, 99, 48, 93]
theorem al_w0 (w : World) : Calls Try.prog 25 #[.slice none 0 0] w fun e w' => ∃ g, e = .returned (.tuple #[.slice (some ⟨g, 0, none⟩) 2 2, .int .i64 0]) ∧ w.heap.size ≤ g ∧ Row w' g 5 (bts [255, 255]).toArray ∧ Below w.heap.size w w' :=
  mwrite_ok (L := []) 0 0 0 w rfl (fun h => by simp at h) rfl rfl
theorem al_w2 {w : World} {g g1 g2 : Nat} (h1 : Src w (some ⟨g1, 0, none⟩) (bts [97, 98])) (h2 : Src w (some ⟨g2, 0, none⟩) (bts [99])) (h3 : Row w g 57 #[.int .i64 3, .slice (some ⟨g1, 0, none⟩) 2 2, .int .i64 4, .slice (some ⟨g2, 0, none⟩) 1 1]) :
    Calls Try.prog 25 #[.slice (some ⟨g, 0, none⟩) 2 2] w fun e w' => ∃ g', e = .returned (.tuple #[.slice (some ⟨g', 0, none⟩) 9 9, .int .i64 0]) ∧ w.heap.size ≤ g' ∧ Row w' g' 5 (bts bl9).toArray ∧ Below w.heap.size w w' := by
  have h := mwrite_ok (L := [⟨3, ⟨some ⟨g1, 0, none⟩, 2, [97, 98]⟩⟩, ⟨4, ⟨some ⟨g2, 0, none⟩, 1, [99]⟩⟩]) 2 7 2 w rfl (xsrc_two 3 4 h1 h2 h3 (by decide) (by decide) (by decide) (by decide)) rfl rfl
  have e : closed (wb [⟨3, ⟨some ⟨g1, 0, none⟩, 2, [97, 98]⟩⟩, ⟨4, ⟨some ⟨g2, 0, none⟩, 1, [99]⟩⟩]) = bl9 := by
    have e1 : wb [⟨3, ⟨some ⟨g1, 0, none⟩, 2, [97, 98]⟩⟩, ⟨4, ⟨some ⟨g2, 0, none⟩, 1, [99]⟩⟩] = [24, 2, 97, 98, 32, 1, 99] := by simp [wb, hdP]
    rw [e1]
    decide +kernel
  rw [e] at h
  exact h
theorem al_w1 {w : World} {g g1 : Nat} (h1 : Src w (some ⟨g1, 0, none⟩) (bts [97, 98])) (h3 : Row w g 57 #[.int .i64 0, .slice (some ⟨g1, 0, none⟩) 2 2]) :
    Calls Try.prog 25 #[.slice (some ⟨g, 0, none⟩) 1 1] w fun e w' => e = .returned (.tuple #[.slice none 0 0, .int .i64 3]) ∧ Below w.heap.size w w' :=
  mwrite_no (L := [⟨0, ⟨some ⟨g1, 0, none⟩, 2, [97, 98]⟩⟩]) 1 1 w rfl (by omega) (xsrc_one 0 h1 h3 (by decide) (by decide)) (by simp) (by simp [faultM, bad, badP])
theorem al_r9 {w : World} {g : Nat} (h : Row w g 5 (bts bl9).toArray) : Calls Try.prog 31 #[.slice (some ⟨g, 0, none⟩) 9 9] w fun e w' => ∃ b o, e = .returned (.tuple #[.slice (some ⟨b, o, none⟩) 2 2, .int .i64 0]) ∧ w'.cell? ⟨b, o + 2, none⟩ = some (.int .i64 4) ∧ Below w.heap.size w w' := by
  have hr : readB bl9 = ([(3, [97, 98]), (4, [99])], 0) := by decide +kernel
  have h0 := mread_any (l := bl9) 9 9 w rfl (by omega) (row_src h) (by decide)
  rw [hr] at h0
  refine h0.mono ?_
  rintro e w' ⟨A, j, L, rfl, hj, hm, hi, hx, hb⟩
  have hl : L.length = 2 := by have := congrArg List.length hm; simpa using this
  obtain rfl : j = 2 := by omega
  obtain ⟨b, o, rfl, hc⟩ := hx (by omega)
  obtain ⟨m, hm1⟩ : ∃ m, L[1]? = some m := ⟨_, List.getElem?_eq_getElem (by omega)⟩
  have h1 : rkey m = (4, [99]) := by
    have := congrArg (fun l => l[1]?) hm
    simpa [hm1] using this
  have h2 := hi m (List.mem_of_getElem? hm1)
  have h3 : m.id = 4 := by
    have h4 := congrArg Prod.fst h1
    simp only [rkey] at h4
    omega
  have h5 := (hc 1 m hm1).1
  rw [h3] at h5
  exact ⟨b, o, rfl, h5, hb⟩
theorem al_r1 {w : World} {g : Nat} (_ : Row w g 5 (bts bl9).toArray) : Calls Try.prog 31 #[.slice (some ⟨g, 0, none⟩) 1 9] w fun e w' => e = .returned (.tuple #[.slice none 0 0, .int .i64 8]) ∧ Below w.heap.size w w' :=
  mread_bad 1 9 8 w (by omega) (by omega) (Lib.hid ((open_short (some ⟨g, 0, none⟩) 1 9 (by omega) w).mono (by rintro e w' ⟨rfl, rfl⟩; exact ⟨rfl, Below.refl _ _⟩)))
theorem src_mark (w1 : World) (l : List Nat) (fr : Nat × Nat) : Src (w1.alloc (.cells (bts l).toArray 5 fr)) (some ⟨w1.heap.size, 0, none⟩) (bts l) := by
  intro _
  have hnew : (w1.alloc (.cells (bts l).toArray 5 fr)).heap[w1.heap.size]? = some (.cells (bts l).toArray 5 fr) := heap_alloc_new w1 _
  refine ⟨_, rfl, fun j u hu => ?_⟩
  rw [add_zero_addr, cell_of_row _ w1.heap.size j _ 5 fr hnew]
  simpa using hu
theorem al_w2W (w1 : World) : Calls Try.prog 25 #[.slice (some ⟨w1.heap.size + 1 + 1, 0, none⟩) 2 2] (((w1.alloc (.cells #[.int .u8 97, .int .u8 98] 5 (2, 3))).alloc (.cells #[.int .u8 99] 5 (1, 2))).alloc (.cells #[.int .i64 3, .slice (some ⟨w1.heap.size, 0, none⟩) 2 2, .int .i64 4, .slice (some ⟨w1.heap.size + 1, 0, none⟩) 1 1] 57))
    fun e w' => ∃ g', e = .returned (.tuple #[.slice (some ⟨g', 0, none⟩) 9 9, .int .i64 0]) ∧ w1.heap.size ≤ g' ∧ Row w' g' 5 (bts bl9).toArray ∧ Below w1.heap.size w1 w' := by
  have h1 := src_later (src_mark w1 [97, 98] (2, 3)) (bl_alloc (bl_alloc (Below.refl _ _) (.cells #[.int .u8 99] 5 (1, 2))) (.cells #[.int .i64 3, .slice (some ⟨w1.heap.size, 0, none⟩) 2 2, .int .i64 4, .slice (some ⟨w1.heap.size + 1, 0, none⟩) 1 1] 57))
  have h2 := src_later (src_mark (w1.alloc (.cells #[.int .u8 97, .int .u8 98] 5 (2, 3))) [99] (1, 2)) (bl_alloc (Below.refl _ _) (.cells #[.int .i64 3, .slice (some ⟨w1.heap.size, 0, none⟩) 2 2, .int .i64 4, .slice (some ⟨w1.heap.size + 1, 0, none⟩) 1 1] 57))
  have h3 := Row.made ((w1.alloc (.cells #[.int .u8 97, .int .u8 98] 5 (2, 3))).alloc (.cells #[.int .u8 99] 5 (1, 2))) 57 #[.int .i64 3, .slice (some ⟨w1.heap.size, 0, none⟩) 2 2, .int .i64 4, .slice (some ⟨w1.heap.size + 1, 0, none⟩) 1 1]
  rw [show (w1.alloc (.cells #[.int .u8 97, .int .u8 98] 5 (2, 3))).heap.size = w1.heap.size + 1 by simp] at h2
  rw [show ((w1.alloc (.cells #[.int .u8 97, .int .u8 98] 5 (2, 3))).alloc (.cells #[.int .u8 99] 5 (1, 2))).heap.size = w1.heap.size + 1 + 1 by simp] at h3
  refine (al_w2 h1 h2 h3).mono ?_
  rintro e w' ⟨g, rfl, hg, hr, hb⟩
  have hA := bl_alloc (bl_alloc (bl_alloc (Below.refl w1.heap.size w1) (.cells #[.int .u8 97, .int .u8 98] 5 (2, 3))) (.cells #[.int .u8 99] 5 (1, 2))) (.cells #[.int .i64 3, .slice (some ⟨w1.heap.size, 0, none⟩) 2 2, .int .i64 4, .slice (some ⟨w1.heap.size + 1, 0, none⟩) 1 1] 57)
  exact ⟨g, rfl, Nat.le_trans hA.size hg, hr, bl_step hA hb⟩
theorem al_w1W (w1 : World) : Calls Try.prog 25 #[.slice (some ⟨w1.heap.size + 1, 0, none⟩) 1 1] ((w1.alloc (.cells #[.int .u8 97, .int .u8 98] 5 (2, 3))).alloc (.cells #[.int .i64 0, .slice (some ⟨w1.heap.size, 0, none⟩) 2 2] 57))
    fun e w' => e = .returned (.tuple #[.slice none 0 0, .int .i64 3]) ∧ Below w1.heap.size w1 w' := by
  have h1 := src_later (src_mark w1 [97, 98] (2, 3)) (bl_alloc (Below.refl _ _) (.cells #[.int .i64 0, .slice (some ⟨w1.heap.size, 0, none⟩) 2 2] 57))
  have h3 := Row.made (w1.alloc (.cells #[.int .u8 97, .int .u8 98] 5 (2, 3))) 57 #[.int .i64 0, .slice (some ⟨w1.heap.size, 0, none⟩) 2 2]
  rw [show (w1.alloc (.cells #[.int .u8 97, .int .u8 98] 5 (2, 3))).heap.size = w1.heap.size + 1 by simp] at h3
  refine (al_w1 h1 h3).mono ?_
  rintro e w' ⟨rfl, hb⟩
  exact ⟨rfl, bl_step (bl_alloc (bl_alloc (Below.refl w1.heap.size w1) _) _) hb⟩
theorem conv_at (w : World) (t e : TypeId) (C : Array Value) (n c g : Nat) (hg : g = w.heap.size) (ht : Try.prog.underlying t = some (.slice e)) (he : Try.prog.underlying e = some (.int .u8)) :
    (convert t t (.slice (some ⟨g, 0, none⟩) n c)).run Try.prog (w.alloc (.cells C e)) = .ok (.slice (some ⟨g, 0, none⟩) n c) (w.alloc (.cells C e (C.size, C.size + 1))) := by
  subst hg
  exact Lib.run_convert_bytes_const w t e C n c ht he
set_option maxRecDepth 100000 in
set_option maxHeartbeats 1600000 in
theorem malive_any (w : World) : Calls Try.prog 24 #[] w fun e w' => e = .returned (.bool true) ∧ Below w.heap.size w w' := by
  have kc1 := fun w => Lib.run_convert_bytes_const (P := Try.prog) w 42 5 #[.int .u8 97, .int .u8 98] 2 2 Try.underlying42 Try.underlying5
  have kc2 := fun (w1 : World) => conv_at (w1.alloc (.cells #[.int .u8 97, .int .u8 98] 5 (2, 3))) 42 5 #[.int .u8 99] 1 1 (w1.heap.size + 1) (by simp) Try.underlying42 Try.underlying5
  go_enter Try.func24, Try.ntmps24
  go_wp2_with (first
    | (go_at_call 25; (with_reducible refine (al_w0 _).mono ?_); rintro e w1 ⟨g1, rfl, hg1, hr1, hb1⟩; (have HR1 := Lib.hid hr1; have HB1 := Lib.hid hb1; clear hr1 hb1))
    | (go_at_call 25; (with_reducible refine (al_w2W w1).mono ?_); rintro e w2 ⟨g2, rfl, hg2, hr2, hb2⟩; (have HR12 := Lib.hid (HR1.out.later hb2); have HR2 := Lib.hid hr2; have HB2 := Lib.hid (bl_step HB1.out hb2); clear hr2 hb2))
    | (go_at_call 31; (with_reducible refine (al_r9 HR2.out).mono ?_); rintro e w3 ⟨b, o, rfl, hc3, hb3⟩; (have HR13 := Lib.hid (HR12.out.later hb3); have HR3 := Lib.hid (HR2.out.later hb3); have HB3 := Lib.hid (bl_step HB2.out hb3); have HC3 := Lib.hid hc3; clear hc3 hb3))
    | (go_at_call 31; (with_reducible refine (al_r1 HR3.out).mono ?_); rintro e w4 ⟨rfl, hb4⟩; (have HR14 := Lib.hid (HR13.out.later hb4); have HR4 := Lib.hid (HR3.out.later hb4); have HB4 := Lib.hid (bl_step HB3.out hb4); have HC4 := Lib.hid (cell_below hb4 HC3.out); clear hb4))
    | (go_at_call 25; (with_reducible refine (al_w1W w4).mono ?_); rintro e w5 ⟨rfl, hb5⟩; (have HB5 := Lib.hid (bl_step HB4.out hb5); have c5 := cell_below hb5 HC4.out; have d5 := (HR4.out.later hb5).read (i := 0) (x := .int .u8 24) rfl; have cv : (convert 42 9 (.slice (some ⟨g1, 0, none⟩) 2 2)).run Try.prog w5 = .ok (.string ⟨#[255, 255]⟩) w5 := conv_str (l := [255, 255]) (HR14.out.later hb5) (by decide))))
  go_ret
  exact ⟨rfl, HB5.out⟩
end Go.Proofs.Ytdaipfmckonfpaa
namespace Go.Proofs.Ytdaipfmckonfpaa
open Go.RowKit

def greatM (L : List PartM) : Bool := decide (40 < L.length) || L.any (fun m => decide (2100 < m.r.bs.length)) || decide (9000 < (plens L).sum)
set_option maxRecDepth 100000 in
set_option maxHeartbeats 800000 in
theorem mgreat_long {A : Option Addr} (n cap : Nat) (w : World) (hn : 40 < n) (hn9 : n ≤ 9223372036854775807) :
    Calls Try.prog 23 #[.slice A n cap] w fun e w' => e = .returned (.bool true) ∧ w = w' := by
  have h1 : (40 : Int) < n := by omega
  have h2 : (0 : Int) < n := by omega
  go_enter Try.func23, Try.ntmps23
  go_wp2
  go_loopw [3, 4] (fun t i wr => t = .int .i64 0 ∧ i = .int .i64 0 ∧ w = wr) (fun _ i _ => 0)
  case atStart => exact ⟨rfl, rfl, rfl⟩
  case round =>
    obtain ⟨rfl, rfl, rfl⟩ := hrel
    go_wp2
    go_ret
    exact ⟨rfl, rfl⟩
set_option maxRecDepth 100000 in
set_option maxHeartbeats 1600000 in
theorem mgreat_short {A : Option Addr} {L : List PartM} (n cap : Nat) (w : World) (hL : L.length = n) (hn : n ≤ 40) (hs : XSrc w A L) :
    Calls Try.prog 23 #[.slice A n cap] w fun e w' => e = .returned (.bool (L.any (fun m => decide (2100 < m.r.bs.length)) || decide (9000 < (plens L).sum))) ∧ w = w' := by
  have HS := Lib.hid hs
  have HL := Lib.hid hL
  have hn' : ¬ (40 : Int) < n := by omega
  clear hs hL
  go_enter Try.func23, Try.ntmps23
  go_wp2
  go_loopw [3, 4] (fun s i wr => ∃ k t : Nat, k ≤ n ∧ i = .int .i64 k ∧ s = .int .i64 t ∧ t ≤ 2100 * k ∧ Hid (t = (plens (L.take k)).sum) ∧ Hid (L.any (fun m => decide (2100 < m.r.bs.length)) = (L.drop k).any (fun m => decide (2100 < m.r.bs.length))) ∧ w = wr) (fun _ i _ => n - (intOf i).toNat)
  case atStart => exact ⟨0, 0, by omega, rfl, rfl, by omega, Lib.hid rfl, Lib.hid rfl, rfl⟩
  case round =>
    obtain ⟨k, t, hk, rfl, rfl, ht, HK, HA, rfl⟩ := hrel
    by_cases hlt : k < n
    · obtain ⟨ab, ao, rfl, hc⟩ := HS.out (by rw [HL.out]; omega)
      obtain ⟨⟨id, ⟨RA, rcap, bs⟩⟩, hr⟩ : ∃ r, L[k]? = some r := ⟨_, List.getElem?_eq_getElem (by rw [HL.out]; exact hlt)⟩
      obtain ⟨f0, f1, e2⟩ := hc k _ hr
      simp only [RowB.v] at f0 f1
      have HT := Lib.hid (plens_take hr)
      have HD := Lib.hid (show L.drop k = ⟨id, ⟨RA, rcap, bs⟩⟩ :: L.drop (k + 1) by
        obtain ⟨h1, h2⟩ := List.getElem?_eq_some_iff.1 hr
        rw [List.drop_eq_getElem_cons h1, h2])
      simp only at HT
      have hkI : (k : Int) < (n : Int) := by omega
      clear hc hr e2
      by_cases hb : 2100 < bs.length
      · have hbI : (2100 : Int) < (bs.length : Int) := by omega
        have HF := Lib.hid (show (L.any (fun m => decide (2100 < m.r.bs.length)) || decide (9000 < (plens L).sum)) = true by
          rw [HA.out, HD.out, List.any_cons, decide_eq_true hb]; rfl)
        go_wp2
        go_ret
        exact ⟨by rw [HF.out]; rfl, rfl⟩
      · have hbI : ¬ (2100 : Int) < (bs.length : Int) := by omega
        have HF := Lib.hid (show L.any (fun m => decide (2100 < m.r.bs.length)) = (L.drop (k + 1)).any (fun m => decide (2100 < m.r.bs.length)) by
          rw [HA.out, HD.out, List.any_cons, decide_eq_false hb, Bool.false_or])
        go_wp2
        go_roundw
        case rel => exact ⟨k + 1, t + bs.length, by omega, by go_num, by go_num, by omega, Lib.hid (by rw [HT.out, HK.out]; simp), HF, trivial⟩
        case measure => simp [intOf]; omega
    · have hkn : k = n := by omega
      subst hkn
      have HF := Lib.hid (show (L.any (fun m => decide (2100 < m.r.bs.length)) || decide (9000 < (plens L).sum)) = decide (9000 < t) by
        rw [HA.out, List.drop_of_length_le (by rw [HL.out]; exact Nat.le_refl _), HK.out, List.take_of_length_le (by rw [HL.out]; exact Nat.le_refl _)]; rfl)
      by_cases h9 : 9000 < t
      · have h9I : (9000 : Int) < (t : Int) := by omega
        go_wp2
        go_ret
        exact ⟨by rw [HF.out, decide_eq_true h9]; rfl, rfl⟩
      · have h9I : ¬ (9000 : Int) < (t : Int) := by omega
        go_wp2
        go_ret
        exact ⟨by rw [HF.out, decide_eq_false h9]; rfl, rfl⟩
theorem mgreat_any {A : Option Addr} {L : List PartM} (n cap : Nat) (w : World) (hL : L.length = n) (hn9 : n ≤ 9223372036854775807) (hs : XSrc w A L) :
    Calls Try.prog 23 #[.slice A n cap] w fun e w' => e = .returned (.bool (greatM L)) ∧ w = w' := by
  unfold greatM
  rw [hL]
  by_cases h : 40 < n
  · rw [decide_eq_true h]
    exact mgreat_long n cap w h hn9
  · rw [decide_eq_false h, Bool.false_or]
    exact mgreat_short n cap w hL (by omega) hs
theorem great_no {L : List PartM} (h : greatM L = false) : L.length ≤ 40 ∧ (∀ m ∈ L, m.r.bs.length ≤ 2100) ∧ (plens L).sum ≤ 9000 := by
  unfold greatM at h
  simp only [Bool.or_eq_false_iff, decide_eq_false_iff_not, List.any_eq_false, decide_eq_true_eq] at h
  exact ⟨by omega, fun m hm => by have := h.1.2 m hm; omega, by omega⟩
theorem own_shp {m E s n : Nat} {w : World} {x : Value} {xs : List Value} (h : w.ownsRow m E s x n xs) : ∃ A c, x = .slice A n c ∧ n ≤ c := by
  rcases h.2 with ⟨rfl, rfl⟩ | ⟨g, cap, cur, rfl, _, _, h1, _⟩
  · exact ⟨none, 0, rfl, Nat.le_refl _⟩
  · exact ⟨_, cap, rfl, h1⟩
end Go.Proofs.Ytdaipfmckonfpaa
namespace Go.Proofs.Ytdaipfmckonfpaa
open Go.RowKit

end Go.Proofs.Ytdaipfmckonfpaa
namespace Go.Proofs.Ytdaipfmckonfpaa
open Go.RowKit

def goodP (m : PartM) : Prop := 1 ≤ m.id ∧ m.id ≤ 31 ∧ 1 ≤ m.r.bs.length ∧ m.r.bs.length ≤ 2047
theorem fault_ok {L : List PartM} (h1 : L.length ≤ 16) (h2 : psum (plens L) ≤ 4094) (h3 : ∀ m ∈ L, goodP m) : faultM L = 0 := by
  unfold faultM
  have h4 : L.any bad = false := by
    rw [List.any_eq_false]
    intro m hm
    obtain ⟨a, b, c, d⟩ := h3 m hm
    unfold bad badP
    rw [decide_eq_false (by omega), decide_eq_false (by omega), decide_eq_false (by omega), decide_eq_false (by omega)]
    decide
  rw [h4, if_neg (by decide), decide_eq_false (by omega), decide_eq_false (by omega)]
  rfl
end Go.Proofs.Ytdaipfmckonfpaa
