/-
  The document's queue: in memory; its first text, its numbers, its bytes. The document's queue: its front; a text discarded.
-/
import Derived.Test.YtgdpjaojlhdhdaaJUmtxFits22
import Derived.BigQuiet
import Derived.StillTailTactics
namespace Go.Proofs.Ytgdpjaojlhdhdaa
open Go.RowKit

structure Ent where
  g : Nat
  c : Nat
  bs : List Nat
  tk : Nat
  gone : Bool
def eL (E : List Ent) : List Value := E.map fun e => .slice (some ⟨e.g, 0, none⟩) e.bs.length e.c
def eT (E : List Ent) : List Value := E.map fun e => .int .i64 (e.tk : Int)
def eG (E : List Ent) : List Value := E.map fun e => .bool e.gone
def Ent.ok (B : Nat) (w : World) (e : Ent) : Prop :=
  0 < e.bs.length ∧ e.bs.length ≤ 1000 ∧ e.tk ≤ e.bs.length ∧ (e.gone = false → e.tk < e.bs.length) ∧ e.bs.length ≤ e.c ∧ e.c ≤ 9223372036854775807 ∧ B ≤ e.g ∧
    ∃ cs, Row w e.g 5 cs ∧ ∀ (j b : Nat), e.bs[j]? = some b → cs[j]? = some (.int .u8 b)
/-- the three lists of a queue of the document's -/
structure RL (w : World) (B : Nat) (E : List Ent) (AL AT AG : Option Addr) (cL cT cG : Nat) : Prop where
  l : w.ownsRow B 30 1 (.slice AL E.length cL) E.length (eL E)
  t : w.ownsRow B 3 1 (.slice AT E.length cT) E.length (eT E)
  g : w.ownsRow B 4 1 (.slice AG E.length cG) E.length (eG E)
structure RQ (w : World) (y B : Nat) (room : Int) (E : List Ent) : Prop where
  row : ∃ AL cL AT cT AG cG, Row w y 161 #[.int .i64 room, .slice AL E.length cL, .slice AT E.length cT, .slice AG E.length cG] ∧ RL w B E AL AT AG cL cT cG
  ent : ∀ e ∈ E, e.ok B w
  many : E.length ≤ 200
section
variable {w v : World} {y B : Nat} {room : Int} {E : List Ent} {AL AT AG : Option Addr} {cL cT cG : Nat}
theorem Ent.ok.only {S : Nat → Prop} {e : Ent} (h : e.ok B w) (ho : Only S w v) (hS : ∀ g cs, Row w g 5 cs → ¬ S g) : e.ok B v := by
  obtain ⟨h1, h2, h3, h4, h5, h6, h7, cs, h8, h9⟩ := h
  exact ⟨h1, h2, h3, h4, h5, h6, h7, cs, h8.only ho (hS _ _ h8), h9⟩
theorem own_typed {m E' n : Nat} {x : Value} {xs : List Value} {S : Nat → Prop} (h : w.ownsRow m E' 1 x n xs) (ho : Only S w v) (hS : ∀ g cs, Row w g E' cs → ¬ S g) : v.ownsRow m E' 1 x n xs :=
  own_only h ho fun k hk => by
    rcases h.2 with ⟨rfl, _⟩ | ⟨g, cap, cur, rfl, _, hh, _⟩
    · simp [Value.ownBlock] at hk
    · have e1 : g = k := by simpa [Value.ownBlock] using hk
      subst e1
      exact hS _ _ hh
theorem RQ.only {S : Nat → Prop} (h : RQ w y B room E) (ho : Only S w v) (hy : ¬ S y) (hS : ∀ g t cs, Row w g t cs → t = 3 ∨ t = 4 ∨ t = 5 ∨ t = 30 → ¬ S g) : RQ v y B room E := by
  obtain ⟨AL, cL, AT, cT, AG, cG, h1, h2⟩ := h.row
  exact ⟨⟨AL, cL, AT, cT, AG, cG, h1.only ho hy, ⟨own_typed h2.l ho fun g cs hr => hS g _ cs hr (by simp), own_typed h2.t ho fun g cs hr => hS g _ cs hr (by simp), own_typed h2.g ho fun g cs hr => hS g _ cs hr (by simp)⟩⟩, fun e he => (h.ent e he).only ho fun g cs hr => hS g _ cs hr (by simp), h.many⟩
theorem RQ.later (h : RQ w y B room E) (hb : Below w.heap.size w v) : RQ v y B room E := h.only (S := fun _ => False) (.of_below hb) (fun hk => hk) (fun _ _ _ _ _ hk => hk)
theorem eG_at {i : Nat} {e : Ent} (h : E[i]? = some e) : (eG E)[i]? = some (.bool e.gone) := by unfold eG; rw [List.getElem?_map, h]; rfl
theorem eT_at {i : Nat} {e : Ent} (h : E[i]? = some e) : (eT E)[i]? = some (.int .i64 (e.tk : Int)) := by unfold eT; rw [List.getElem?_map, h]; rfl
theorem eL_at {i : Nat} {e : Ent} (h : E[i]? = some e) : (eL E)[i]? = some (.slice (some ⟨e.g, 0, none⟩) e.bs.length e.c) := by unfold eL; rw [List.getElem?_map, h]; rfl
theorem qcells {n : Nat} (hr : Row w y 161 #[.int .i64 room, .slice AL n cL, .slice AT n cT, .slice AG n cG]) : w.cell? ⟨y, 0, none⟩ = some (.int .i64 room) ∧ w.cell? ⟨y, 1, none⟩ = some (.slice AL n cL) ∧ w.cell? ⟨y, 2, none⟩ = some (.slice AT n cT) ∧ w.cell? ⟨y, 3, none⟩ = some (.slice AG n cG) := ⟨hr.read rfl, hr.read rfl, hr.read rfl, hr.read rfl⟩
/-- the place of the first text that is not gone -/
def fE (E : List Ent) : Nat := E.findIdx fun e => !e.gone
def fEi (E : List Ent) : Int := if fE E < E.length then (fE E : Int) else -1
theorem fE_before {i : Nat} {e : Ent} (h : E[i]? = some e) (hi : i < fE E) : e.gone = true := by
  have hl := (List.getElem?_eq_some_iff.1 h).1
  have he := (List.getElem?_eq_some_iff.1 h).2
  have := List.not_of_lt_findIdx hi
  rw [he] at this
  simpa using this
theorem fE_at {e : Ent} (h : E[fE E]? = some e) : e.gone = false := by
  have hl := (List.getElem?_eq_some_iff.1 h).1
  have he := (List.getElem?_eq_some_iff.1 h).2
  have := List.findIdx_getElem (w := hl)
  rw [← he]
  simp only [Bool.not_eq_true'] at this
  exact this
theorem fE_le : fE E ≤ E.length := List.findIdx_le_length
set_option maxRecDepth 100000 in
set_option maxHeartbeats 1600000 in
theorem rq_first (h : RQ w y B room E) : Calls Try.prog 242 #[.pointer (some ⟨y, 0, none⟩)] w fun e w' => e = .returned (.int .i64 (fEi E)) ∧ w = w' := by
  obtain ⟨AL, cL, AT, cT, AG, cG, hr, hl⟩ := h.row
  have HG := Lib.hid (own_at hl.g)
  have HB := Lib.hid (fun i e (h : E[i]? = some e) (hi : i < fE E) => fE_before h hi)
  have HA := Lib.hid (fun e (h : E[fE E]? = some e) => fE_at h)
  have hle := fE_le (E := E)
  have HF := Lib.hid (show fEi E = if fE E < E.length then (fE E : Int) else -1 from rfl)
  have HN := Lib.hid (fun i (hi : i < E.length) => (⟨_, List.getElem?_eq_getElem hi⟩ : ∃ e, E[i]? = some e))
  have hm := h.many
  generalize hf : fE E = f at *
  generalize hn : E.length = n at *
  obtain ⟨c0, c1, c2, c3⟩ := qcells hr
  clear h hr hl hn hf
  go_enter Try.func242, Try.ntmps242
  go_wp2
  go_loopw [3] (fun s3 wr => ∃ i : Nat, i ≤ f ∧ s3 = .int .i64 i ∧ w = wr) (fun s3 _ => f - (intOf s3).toNat)
  case atStart => exact ⟨0, by omega, rfl, rfl⟩
  case round =>
    obtain ⟨i, hi, rfl, rfl⟩ := hrel
    by_cases hlt : i < n
    · obtain ⟨e, he⟩ := HN.out i hlt
      obtain ⟨g, rfl, z⟩ := HG.out.cell (eG_at he)
      have h1 : (i : Int) < n := by omega
      have h0 : (0 : Int) ≤ i := by omega
      by_cases hif : i < f
      · have hg := HB.out i e he hif
        rw [hg] at z
        have HIF := Lib.hid hif
        clear he hg hlt hif
        go_wp2
        go_roundw
        case rel => exact ⟨i + 1, by have := HIF.out; omega, by go_num, trivial⟩
        case measure => have := HIF.out; simp [intOf]; omega
      · obtain rfl : i = f := by omega
        have hg := HA.out e he
        rw [hg] at z
        have HR := Lib.hid (show fEi E = (i : Int) by rw [HF.out, if_pos hlt])
        clear he hg hlt hif
        go_wp2
        go_ret
        exact ⟨ret_int HR.out.symm, rfl⟩
    · have h1 : ¬ (i : Int) < n := by omega
      have HR := Lib.hid (show fEi E = -1 by rw [HF.out, if_neg (by omega)])
      clear hlt
      go_wp2
      go_ret
      exact ⟨ret_int HR.out.symm, rfl⟩
def idk (E : List Ent) (k : Nat) : List Nat := ((List.range k).filter fun i => !((E[i]?.map Ent.gone).getD true)).map fun i => i + 1
def u64v (l : List Nat) : List Value := l.map fun b : Nat => .int .u64 (b : Int)
theorem idk_succ {k : Nat} {e : Ent} (h : E[k]? = some e) : idk E (k + 1) = idk E k ++ (if e.gone = true then [] else [k + 1]) := by
  unfold idk
  rw [List.range_succ, List.filter_append, List.map_append]
  congr 1
  by_cases hg : e.gone = true
  · rw [if_pos hg, List.filter_cons_of_neg (by rw [h]; simp [hg])]; rfl
  · rw [if_neg hg, List.filter_cons_of_pos (by rw [h]; simpa using hg)]; rfl
theorem idk_le (E : List Ent) (k : Nat) : (idk E k).length ≤ k := by
  unfold idk
  rw [List.length_map]
  exact Nat.le_trans (List.length_filter_le _ _) (by simp)
theorem u64v_app (l k : List Nat) : u64v (l ++ k) = u64v l ++ u64v k := by unfold u64v; simp
set_option maxRecDepth 100000 in
set_option maxHeartbeats 3200000 in
theorem rq_ids (h : RQ w y B room E) : Calls Try.prog 122 #[.pointer (some ⟨y, 0, none⟩)] w fun e w' => ∃ A c, e = .returned (.slice A (idk E E.length).length c) ∧ SlAt w.heap.size 33 w' A (u64v (idk E E.length)) ∧ Below w.heap.size w w' := by
  obtain ⟨AL, cL, AT, cT, AG, cG, hr, hl⟩ := h.row
  have HG := Lib.hid (own_at hl.g)
  have HR := Lib.hid hr
  have HN := Lib.hid (fun i (hi : i < E.length) => (⟨_, List.getElem?_eq_getElem hi⟩ : ∃ e, E[i]? = some e))
  have HS := Lib.hid (fun k e (h : E[k]? = some e) => idk_succ h)
  have HL := Lib.hid (idk_le E)
  have HZ0 : ∀ wr : World, wr.ownsRow w.heap.size 33 1 (.slice none 0 0) (idk E 0).length (u64v (idk E 0)) := fun wr => World.ownsRow_nil _ _ _ _
  have HZ := Lib.hid HZ0
  clear HZ0
  have hm := h.many
  generalize idk E = id at *
  generalize hn : E.length = n at *
  clear h hr hl hn
  go_enter Try.func122, Try.ntmps122
  go_wp2
  go_loopw [3, 4] (fun s3 s4 wr => ∃ i : Nat, i ≤ n ∧ s4 = .int .i64 i ∧ Hid (wr.ownsRow w.heap.size 33 1 s3 (id i).length (u64v (id i))) ∧ Hid (Below w.heap.size w wr)) (fun _ s4 _ => n - (intOf s4).toNat)
  case atStart => exact ⟨0, by omega, rfl, Lib.hid (HZ.out _), Lib.hid (Below.refl _ _)⟩
  case round =>
    obtain ⟨i, hi, rfl, HOW, HBr⟩ := hrel
    obtain ⟨A3, c3', rfl, hc3, hc3m⟩ := own_shape HOW.out
    obtain ⟨c0, c1, c2, c3⟩ := qcells (HR.out.later HBr.out)
    by_cases hlt : i < n
    · obtain ⟨e, he⟩ := HN.out i hlt
      obtain ⟨g, rfl, z⟩ := (HG.out.later HBr.out).cell (eG_at he)
      have h1 : (i : Int) < n := by omega
      have h0 : (0 : Int) ≤ i := by omega
      have HSI := Lib.hid (HS.out i e he)
      have HLT := Lib.hid hlt
      have hu : IntKind.u64.wrap ((i : Int) + 1) = ((i + 1 : Nat) : Int) := by rw [IntKind.wrap_u64]; omega
      have hu0 : IntKind.u64.wrap (i : Int) = (i : Int) := by rw [IntKind.wrap_u64]; omega
      clear he hlt
      cases hg : e.gone
      · rw [hg] at z HSI
        simp only [Bool.false_eq_true, if_false] at HSI
        obtain ⟨A', c', w3, hrun, hown, hon⟩ := own_next (T := 37) (E := 33) (u := .int .u64 ((i + 1 : Nat) : Int)) (by kernel_rfl) (show (Try.prog.info? 33).map (fun i => (i.zero, i.size, i.bytes)) = some (some (.int .u64 0), 1, 8) by kernel_rfl) rfl (by omega) rfl HOW.out HBr.out.size (by have := HL.out i; omega)
        have HRUN := Lib.hid hrun
        have HOWN := Lib.hid hown
        have HON := Lib.hid (hon.below HBr.out.size (fun j hj hk => by have := (own_block HOW.out j hk).1; omega))
        clear hrun hown hon hg
        go_wp2_with (first
          | (at_builtin; refine wpList_is rfl (.tmp 22) (.tmp 26) 37 rfl _ _ (by rfl) (by rfl) HRUN.out ?_)
          | go_in)
        go_roundw
        case rel => exact ⟨i + 1, by have := HLT.out; omega, by go_num, Lib.hid (by rw [HSI.out, List.length_append, u64v_app]; exact HOWN.out), Lib.hid (HBr.out.trans HON.out)⟩
        case measure => have := HLT.out; simp [intOf]; omega
      · rw [hg] at z HSI
        simp only [if_true, List.append_nil] at HSI
        clear hg
        go_wp2
        go_roundw
        case rel => exact ⟨i + 1, by have := HLT.out; omega, by go_num, Lib.hid (by rw [HSI.out]; exact HOW.out), HBr⟩
        case measure => have := HLT.out; simp [intOf]; omega
    · have h1 : ¬ (i : Int) < n := by omega
      obtain rfl : i = n := by omega
      clear hlt
      go_wp2
      go_ret
      refine ⟨A3, ⟨c3', rfl⟩, own_at HOW.out, HBr.out⟩
/-- how many bytes wait of the first k texts -/
def byk (E : List Ent) (k : Nat) : Nat := ((E.take k).map fun e => if e.gone then 0 else e.bs.length - e.tk).sum
theorem byk_succ {k : Nat} {e : Ent} (h : E[k]? = some e) : byk E (k + 1) = byk E k + (if e.gone = true then 0 else e.bs.length - e.tk) := by
  unfold byk
  rw [List.take_add_one, h]
  simp
theorem byk_le (he : ∀ e ∈ E, e.bs.length ≤ 1000) (k : Nat) : byk E k ≤ 1000 * k := by
  induction k with
  | zero => simp [byk]
  | succ k ih =>
    by_cases hk : k < E.length
    · rw [byk_succ (List.getElem?_eq_getElem hk)]
      have := he _ (List.getElem_mem hk)
      split <;> omega
    · have : byk E (k + 1) = byk E k := by
        unfold byk
        rw [List.take_of_length_le (by omega), List.take_of_length_le (by omega)]
      omega
set_option maxRecDepth 100000 in
set_option maxHeartbeats 3200000 in
theorem rq_bytes (h : RQ w y B room E) : Calls Try.prog 120 #[.pointer (some ⟨y, 0, none⟩)] w fun e w' => e = .returned (.int .i64 (byk E E.length : Nat)) ∧ Below w.heap.size w w' := by
  obtain ⟨AL, cL, AT, cT, AG, cG, hr, hl⟩ := h.row
  have HG := Lib.hid (own_at hl.g)
  have HT := Lib.hid (own_at hl.t)
  have HLL := Lib.hid (own_at hl.l)
  have HR := Lib.hid hr
  have HE := Lib.hid h.ent
  have HN := Lib.hid (fun i (hi : i < E.length) => (⟨_, List.getElem?_eq_getElem hi⟩ : ∃ e, E[i]? = some e))
  have HS := Lib.hid (fun k e (h : E[k]? = some e) => byk_succ h)
  have HL := Lib.hid (byk_le (E := E) fun e he => (h.ent e he).2.1)
  have HZ := Lib.hid (show byk E 0 = 0 from rfl)
  have hm := h.many
  generalize byk E = by' at *
  generalize hn : E.length = n at *
  clear h hr hl hn
  go_enter Try.func120, Try.ntmps120
  go_wp2
  go_loopw [3, 4] (fun s3 s4 wr => ∃ i q : Nat, i ≤ n ∧ s4 = .int .i64 i ∧ s3 = .int .i64 (q : Int) ∧ Hid (by' i = q) ∧ q ≤ 200000 ∧ Hid (Below w.heap.size w wr)) (fun _ s4 _ => n - (intOf s4).toNat)
  case atStart => exact ⟨0, 0, by omega, rfl, rfl, HZ, by omega, Lib.hid (Below.refl _ _)⟩
  case round =>
    obtain ⟨i, q, hi, rfl, rfl, HQ, hq, HBr⟩ := hrel
    obtain ⟨c0, c1, c2, c3⟩ := qcells (HR.out.later HBr.out)
    by_cases hlt : i < n
    · obtain ⟨e, he⟩ := HN.out i hlt
      obtain ⟨g, rfl, z⟩ := (HG.out.later HBr.out).cell (eG_at he)
      have h1 : (i : Int) < n := by omega
      have h0 : (0 : Int) ≤ i := by omega
      have HSI := Lib.hid (HS.out i e he)
      have HLT := Lib.hid hlt
      have hbd := HL.out (i + 1)
      cases hg : e.gone
      · rw [hg] at z HSI
        simp only [Bool.false_eq_true, if_false] at HSI
        obtain ⟨g1, rfl, z1⟩ := (HT.out.later HBr.out).cell (eT_at he)
        obtain ⟨g2, rfl, z2⟩ := (HLL.out.later HBr.out).cell (eL_at he)
        obtain ⟨e1, e2, e3, _⟩ := HE.out e (List.mem_of_getElem? he)
        have HSJ := Lib.hid (show ((q : Int) + (e.bs.length : Int) - (e.tk : Int)) = ((by' (i + 1) : Nat) : Int) by rw [HSI.out, HQ.out]; omega)
        have HBD := Lib.hid (show by' (i + 1) ≤ 200000 by omega)
        generalize e.bs.length = bl at *
        generalize e.tk = tk at *
        clear he hg hlt e1 hbd
        have w1 : IntKind.i64.wrap ((q : Int) + (bl : Int)) = (q : Int) + bl := IntWalk.i64_in _ (by omega)
        have w2 : IntKind.i64.wrap ((q : Int) + (bl : Int) - (tk : Int)) = (q : Int) + bl - tk := IntWalk.i64_in _ (by omega)
        go_wp2
        go_quiet (fail)
        go_wp2
        go_roundw
        case rel => exact ⟨i + 1, by' (i + 1), by have := HLT.out; omega, by go_num, by rw [HSJ.out], Lib.hid rfl, HBD.out, Lib.hid (below_drewN HBr.out _)⟩
        case measure => have := HLT.out; simp [intOf]; omega
      · rw [hg] at z HSI
        simp only [if_true, Nat.add_zero] at HSI
        clear hg
        go_wp2
        go_roundw
        case rel => exact ⟨i + 1, q, by have := HLT.out; omega, by go_num, rfl, Lib.hid (by rw [HSI.out]; exact HQ.out), hq, HBr⟩
        case measure => have := HLT.out; simp [intOf]; omega
    · have h1 : ¬ (i : Int) < n := by omega
      obtain rfl : i = n := by omega
      clear hlt
      go_wp2
      go_ret
      exact ⟨ret_int (by rw [HQ.out]), HBr.out⟩
end
end Go.Proofs.Ytgdpjaojlhdhdaa
namespace Go.Proofs.Ytgdpjaojlhdhdaa
open Go.RowKit

def S34 (B : Nat) (w : World) (k : Nat) : Prop := B ≤ k ∧ ∃ t cs, Row w k t cs ∧ (t = 3 ∨ t = 4)
section
variable {w v : World} {y B : Nat} {room : Int} {E : List Ent} {AL AT AG : Option Addr} {cL cT cG : Nat}
theorem rq_front_none (h : RQ w y B room E) (hf : fE E = E.length) : Calls Try.prog 118 #[.pointer (some ⟨y, 0, none⟩)] w fun e w' => e = .returned (.tuple #[.int .u64 0, .slice none 0 0, .bool false]) ∧ w = w' := by
  have HF := Lib.hid (by have h1 := rq_first h; rw [show fEi E = -1 by unfold fEi; rw [if_neg (by omega)]] at h1; exact h1)
  clear h hf
  go_enter Try.func118, Try.ntmps118
  go_wp2_with (go_at_call 242; (with_reducible refine HF.out.mono ?_); rintro e w1 ⟨rfl, rfl⟩)
  go_ret3
  exact ⟨rfl, rfl⟩
set_option maxRecDepth 100000 in
set_option maxHeartbeats 3200000 in
theorem rq_front (h : RQ w y B room E) {e : Ent} (he : E[fE E]? = some e) : Calls Try.prog 118 #[.pointer (some ⟨y, 0, none⟩)] w fun r w' => r = .returned (.tuple #[.int .u64 ((fE E : Int) + 1), .slice (some ⟨e.g, e.tk, none⟩) (e.bs.length - e.tk) (e.c - e.tk), .bool (decide (0 < e.tk))]) ∧ Below w.heap.size w w' := by
  have hlt := (List.getElem?_eq_some_iff.1 he).1
  have HF := Lib.hid (by have h1 := rq_first h; rw [show fEi E = (fE E : Int) by unfold fEi; rw [if_pos hlt]] at h1; exact h1)
  obtain ⟨AL, cL, AT, cT, AG, cG, hr, hl⟩ := h.row
  obtain ⟨g1, rfl, z1⟩ := (own_at hl.t).cell (eT_at he)
  obtain ⟨g2, rfl, z2⟩ := (own_at hl.l).cell (eL_at he)
  obtain ⟨e1, e2, e3, e4, e5, e6, _⟩ := h.ent e (List.mem_of_getElem? he)
  have e7 := e4 (fE_at he)
  obtain ⟨c0, c1, c2, c3⟩ := qcells hr
  have hm := h.many
  generalize fE E = f at *
  generalize E.length = n at *
  generalize e.bs.length = bl at *
  obtain ⟨eg, ec, _, tk, _⟩ := e
  simp only at *
  have h1 : (f : Int) < n := by omega
  have h0 : (0 : Int) ≤ f := by omega
  have ht0 : (0 : Int) ≤ tk := by omega
  have ht1 : (tk : Int) ≤ bl := by omega
  have hu : IntKind.u64.wrap ((f : Int) + 1) = (f : Int) + 1 := by rw [IntKind.wrap_u64]; omega
  have hu0 : IntKind.u64.wrap (f : Int) = (f : Int) := by rw [IntKind.wrap_u64]; omega
  clear h hr hl he e4 hlt
  go_enter Try.func118, Try.ntmps118
  go_wp2_with (go_at_call 242; (with_reducible refine HF.out.mono ?_); rintro e w1 ⟨rfl, rfl⟩)
  go_quiet (fail)
  go_wp2
  go_ret3
  exact ⟨rfl, below_drewN (Below.refl _ _) _⟩
theorem own_row {m E' n c : Nat} {g : Nat} {xs : List Value} (h : w.ownsRow m E' 1 (.slice (some ⟨g, 0, none⟩) n c) n xs) : ∃ cs, Row w g E' cs := by
  rcases h.2 with ⟨e, _⟩ | ⟨g', cap, cur, e, _, hh, _⟩
  · cases e
  · injection e with e1 _ _
    injection e1 with e1
    injection e1 with e1
    subst e1
    exact ⟨_, hh⟩
theorem own_in {m E' n c : Nat} {g : Nat} {xs : List Value} (h : w.ownsRow m E' 1 (.slice (some ⟨g, 0, none⟩) n c) n xs) : g < w.heap.size := (h.lt g rfl).2
theorem own_free {m E' n c i : Nat} {g : Nat} {xs : List Value} (h : w.ownsRow m E' 1 (.slice (some ⟨g, 0, none⟩) n c) n xs) : w.frozen? ⟨g, i, none⟩ = false := by
  rcases h.2 with ⟨e, _⟩ | ⟨g', cap, cur, e, _, hh, _⟩
  · cases e
  · injection e with e1 _ _
    injection e1 with e1
    injection e1 with e1
    subst e1
    exact Row.free hh i
theorem RL.later (h : RL w B E AL AT AG cL cT cG) (hb : Below w.heap.size w v) : RL v B E AL AT AG cL cT cG := ⟨own_after h.l hb, own_after h.t hb, own_after h.g hb⟩
theorem own_put {m E' n c i : Nat} {g : Nat} {xs : List Value} (h : w.ownsRow m E' 1 (.slice (some ⟨g, 0, none⟩) n c) n xs) (u : Value) : (w.setCell ⟨g, i, none⟩ u).ownsRow m E' 1 (.slice (some ⟨g, 0, none⟩) n c) n (xs.set i u) := by
  refine ⟨by rw [List.length_set]; exact h.1, ?_⟩
  rcases h.2 with ⟨e, _⟩ | ⟨g', cap, cur, e, h2, h3, h4, h5, h6, h7⟩
  · cases e
  · injection e with e1 _ e3
    injection e1 with e1
    injection e1 with e1
    subst e1 e3
    refine .inr ⟨g, c, cur.setIfInBounds i u, rfl, h2, Row.written (t := E') (cs := cur) h3 i u, h4, h5, by simp [h6], ?_⟩
    rw [Array.toList_setIfInBounds, List.take_set, h7]
theorem set_eL {i : Nat} {e : Ent} (he : E[i]? = some e) (t' : Nat) (g' : Bool) : eL (E.set i { e with tk := t', gone := g' }) = eL E := by
  unfold eL
  rw [List.map_set]
  refine List.ext_getElem? fun j => ?_
  rw [List.getElem?_set]
  split
  · rename_i hj; subst hj
    split
    · rw [List.getElem?_map, he]; rfl
    · rename_i h9; rw [List.getElem?_eq_none (by omega)]
  · rfl
theorem set_eT {i : Nat} (e : Ent) (t' : Nat) (g' : Bool) : eT (E.set i { e with tk := t', gone := g' }) = (eT E).set i (.int .i64 (t' : Int)) := by
  unfold eT
  rw [List.map_set]
theorem set_eG {i : Nat} (e : Ent) (t' : Nat) (g' : Bool) : eG (E.set i { e with tk := t', gone := g' }) = (eG E).set i (.bool g') := by
  unfold eG
  rw [List.map_set]
theorem same_at {α : Type} {xs : List α} {i : Nat} {a : α} (h : xs[i]? = some a) : xs.set i a = xs := by
  refine List.ext_getElem? fun j => ?_
  rw [List.getElem?_set]
  split
  · rename_i hj; subst hj
    split
    · exact h.symm
    · rename_i h9; rw [List.getElem?_eq_none (by omega)]
  · rfl
theorem put_typed {m E' n g i : Nat} {t : TypeId} {cs : Array Value} {x : Value} {xs : List Value} (h : w.ownsRow m E' 1 x n xs) (hr : Row w g t cs) (hne : E' ≠ t) (u : Value) : (w.setCell ⟨g, i, none⟩ u).ownsRow m E' 1 x n xs :=
  own_typed h ((Only.refl (fun k => k = g) w).set (p := ⟨g, i, none⟩) (.inl rfl) u) fun g' cs' hr' e => by
    subst e
    exact Row.apart hr' hr hne rfl
theorem Ent.ok.put {g i : Nat} {t : TypeId} {cs : Array Value} {e : Ent} (h : e.ok B w) (hr : Row w g t cs) (hne : t ≠ 5) (u : Value) : e.ok B (w.setCell ⟨g, i, none⟩ u) :=
  h.only ((Only.refl (fun k => k = g) w).set (p := ⟨g, i, none⟩) (.inl rfl) u) fun g' cs' hr' e => by
    subst e
    exact Row.apart hr hr' hne rfl
theorem Ent.ok.turn {e : Ent} (h : e.ok B w) {t' : Nat} {g' : Bool} (h1 : t' ≤ e.bs.length) (h2 : g' = false → t' < e.bs.length) : Ent.ok B w { e with tk := t', gone := g' } := by
  obtain ⟨a1, a2, _, _, a5, a6, a7, a8⟩ := h
  exact ⟨a1, a2, h1, h2, a5, a6, a7, a8⟩
theorem RQ.gone {i : Nat} {e : Ent} {g3 : Nat} (h : RQ w y B room E) (hr : Row w y 161 #[.int .i64 room, .slice AL E.length cL, .slice AT E.length cT, .slice (some ⟨g3, 0, none⟩) E.length cG]) (hl : RL w B E AL AT (some ⟨g3, 0, none⟩) cL cT cG)
    (he : E[i]? = some e) (g' : Bool) (h2 : g' = false → e.tk < e.bs.length) : RQ (w.setCell ⟨g3, i, none⟩ (.bool g')) y B room (E.set i { e with tk := e.tk, gone := g' }) := by
  obtain ⟨cs3, hr3⟩ := own_row hl.g
  have hy : y ≠ g3 := Row.apart hr hr3 (by decide)
  refine ⟨⟨AL, cL, AT, cT, some ⟨g3, 0, none⟩, cG, ?_, ⟨?_, ?_, ?_⟩⟩, fun e' he' => ?_, by rw [List.length_set]; exact h.many⟩
  · rw [List.length_set]; exact hr.elsewhere hy _
  · rw [List.length_set, set_eL he]; exact put_typed hl.l hr3 (by decide) _
  · rw [List.length_set, set_eT, same_at (eT_at he)]; exact put_typed hl.t hr3 (by decide) _
  · rw [List.length_set, set_eG]; exact own_put hl.g _
  · rcases List.mem_or_eq_of_mem_set he' with h5 | h5
    · exact (h.ent e' h5).put hr3 (by decide) _
    · subst h5
      exact ((h.ent e (List.mem_of_getElem? he)).put hr3 (by decide) _).turn (h.ent e (List.mem_of_getElem? he)).2.2.1 h2
theorem RL.gone {i : Nat} {e : Ent} {g3 : Nat} (hl : RL w B E AL AT (some ⟨g3, 0, none⟩) cL cT cG) (he : E[i]? = some e) (g' : Bool) : RL (w.setCell ⟨g3, i, none⟩ (.bool g')) B (E.set i { e with tk := e.tk, gone := g' }) AL AT (some ⟨g3, 0, none⟩) cL cT cG := by
  obtain ⟨cs3, hr3⟩ := own_row hl.g
  refine ⟨?_, ?_, ?_⟩
  · rw [List.length_set, set_eL he]; exact put_typed hl.l hr3 (by decide) _
  · rw [List.length_set, set_eT, same_at (eT_at he)]; exact put_typed hl.t hr3 (by decide) _
  · rw [List.length_set, set_eG]; exact own_put hl.g _
theorem RQ.upd {i : Nat} {e : Ent} {g1 g3 : Nat} (h : RQ w y B room E) (hr : Row w y 161 #[.int .i64 room, .slice AL E.length cL, .slice (some ⟨g1, 0, none⟩) E.length cT, .slice (some ⟨g3, 0, none⟩) E.length cG]) (hl : RL w B E AL (some ⟨g1, 0, none⟩) (some ⟨g3, 0, none⟩) cL cT cG)
    (he : E[i]? = some e) (t' : Nat) (g' : Bool) (h1 : t' ≤ e.bs.length) (h2 : g' = false → t' < e.bs.length) : RQ ((w.setCell ⟨g1, i, none⟩ (.int .i64 (t' : Int))).setCell ⟨g3, i, none⟩ (.bool g')) y B room (E.set i { e with tk := t', gone := g' }) := by
  obtain ⟨cs1, hr1⟩ := own_row hl.t
  obtain ⟨cs3, hr3⟩ := own_row hl.g
  have hy : y ≠ g3 := Row.apart hr hr3 (by decide)
  have hy1 : y ≠ g1 := Row.apart hr hr1 (by decide)
  have h31 : g3 ≠ g1 := Row.apart hr3 hr1 (by decide)
  have hr3' := hr3.elsewhere (p := ⟨g1, i, none⟩) h31 (.int .i64 (t' : Int))
  refine ⟨⟨AL, cL, some ⟨g1, 0, none⟩, cT, some ⟨g3, 0, none⟩, cG, ?_, ⟨?_, ?_, ?_⟩⟩, fun e' he' => ?_, by rw [List.length_set]; exact h.many⟩
  · rw [List.length_set]; exact (hr.elsewhere hy1 _).elsewhere hy _
  · rw [List.length_set, set_eL he]; exact put_typed (put_typed hl.l hr1 (by decide) _) hr3' (by decide) _
  · rw [List.length_set, set_eT]; exact put_typed (own_put hl.t _) hr3' (by decide) _
  · rw [List.length_set, set_eG]; exact own_put (put_typed hl.g hr1 (by decide) _) _
  · rcases List.mem_or_eq_of_mem_set he' with h5 | h5
    · exact ((h.ent e' h5).put hr1 (by decide) _).put hr3' (by decide) _
    · subst h5
      exact (((h.ent e (List.mem_of_getElem? he)).put hr1 (by decide) _).put hr3' (by decide) _).turn h1 h2
theorem rq_take_none (n : Int) (h : RQ w y B room E) (hf : fE E = E.length) : Calls Try.prog 111 #[.pointer (some ⟨y, 0, none⟩), .int .i64 n] w fun e w' => e = .returned (.tuple #[.slice none 0 0, .bool false, .int .i64 4]) ∧ w = w' := by
  have HF := Lib.hid (by have h1 := rq_first h; rw [show fEi E = -1 by unfold fEi; rw [if_neg (by omega)]] at h1; exact h1)
  clear h hf
  go_enter Try.func111, Try.ntmps111
  go_wp2_with (go_at_call 242; (with_reducible refine HF.out.mono ?_); rintro e w1 ⟨rfl, rfl⟩)
  go_ret3
  exact ⟨rfl, rfl⟩
set_option maxRecDepth 100000 in
set_option maxHeartbeats 3200000 in
theorem rq_take_bad (n : Int) (h : RQ w y B room E) {e : Ent} (he : E[fE E]? = some e) (hn : n < 1 ∨ ((e.bs.length - e.tk : Nat) : Int) < n) : Calls Try.prog 111 #[.pointer (some ⟨y, 0, none⟩), .int .i64 n] w fun r w' => r = .returned (.tuple #[.slice none 0 0, .bool false, .int .i64 1]) ∧ Below w.heap.size w w' := by
  have hlt := (List.getElem?_eq_some_iff.1 he).1
  have HF := Lib.hid (by have h1 := rq_first h; rw [show fEi E = (fE E : Int) by unfold fEi; rw [if_pos hlt]] at h1; exact h1)
  obtain ⟨AL, cL, AT, cT, AG, cG, hr, hl⟩ := h.row
  obtain ⟨g1, rfl, z1⟩ := (own_at hl.t).cell (eT_at he)
  obtain ⟨g2, rfl, z2⟩ := (own_at hl.l).cell (eL_at he)
  obtain ⟨e1, e2, e3, e4, e5, e6, _⟩ := h.ent e (List.mem_of_getElem? he)
  obtain ⟨c0, c1, c2, c3⟩ := qcells hr
  have hm := h.many
  generalize fE E = f at *
  generalize E.length = q at *
  generalize e.bs.length = bl at *
  obtain ⟨eg, ec, _, tk, _⟩ := e
  simp only at *
  have h1 : (f : Int) < q := by omega
  have h0 : (0 : Int) ≤ f := by omega
  have hw : IntKind.i64.wrap ((bl : Int) - (tk : Int)) = ((bl - tk : Nat) : Int) := by rw [IntWalk.i64_in _ (by omega)]; omega
  generalize bl - tk = lf at *
  clear h hr hl he e4 hlt
  by_cases hn1 : n < 1
  · clear hn
    go_enter Try.func111, Try.ntmps111
    go_wp2_with (go_at_call 242; (with_reducible refine HF.out.mono ?_); rintro e w1 ⟨rfl, rfl⟩)
    go_quiet (fail)
    go_wp2
    go_ret3
    exact ⟨rfl, below_drewN (Below.refl _ _) _⟩
  · have hn2 : (lf : Int) < n := by omega
    clear hn
    go_enter Try.func111, Try.ntmps111
    go_wp2_with (go_at_call 242; (with_reducible refine HF.out.mono ?_); rintro e w1 ⟨rfl, rfl⟩)
    go_quiet (fail)
    go_wp2
    go_ret3
    exact ⟨rfl, below_drewN (Below.refl _ _) _⟩
set_option maxRecDepth 100000 in
set_option maxHeartbeats 6400000 in
theorem rq_take (n : Nat) (h : RQ w y B room E) {e : Ent} (he : E[fE E]? = some e) (hn1 : 1 ≤ n) (hn2 : n ≤ e.bs.length - e.tk) : Calls Try.prog 111 #[.pointer (some ⟨y, 0, none⟩), .int .i64 n] w fun r w' => ∃ c, r = .returned (.tuple #[.slice (some ⟨e.g, e.tk, none⟩) n c, .bool (n == e.bs.length - e.tk), .int .i64 0]) ∧
    RQ w' y B room (E.set (fE E) { e with tk := e.tk + n, gone := n == e.bs.length - e.tk }) ∧ Only (S34 B w) w w' := by
  have hlt := (List.getElem?_eq_some_iff.1 he).1
  have HF := Lib.hid (by have h1 := rq_first h; rw [show fEi E = (fE E : Int) by unfold fEi; rw [if_pos hlt]] at h1; exact h1)
  have HQ := Lib.hid h
  obtain ⟨AL, cL, AT, cT, AG, cG, hr, hl⟩ := h.row
  obtain ⟨g1, rfl, z1⟩ := (own_at hl.t).cell (eT_at he)
  obtain ⟨g2, rfl, z2⟩ := (own_at hl.l).cell (eL_at he)
  obtain ⟨g3, rfl, z3⟩ := (own_at hl.g).cell (eG_at he)
  obtain ⟨e1, e2, e3, e4, e5, e6, _⟩ := h.ent e (List.mem_of_getElem? he)
  obtain ⟨c0, c1, c2, c3⟩ := qcells hr
  have hm := h.many
  have HE := Lib.hid he
  have HR := Lib.hid hr
  have HL := Lib.hid hl
  generalize hf : fE E = f at *
  generalize hq : E.length = q at *
  have HQL := Lib.hid hq
  generalize hbl : e.bs.length = bl at *
  generalize htk : e.tk = tk at *
  have HTK := Lib.hid htk
  have HBL := Lib.hid hbl
  have h1 : (f : Int) < q := by omega
  have h0 : (0 : Int) ≤ f := by omega
  have hw : IntKind.i64.wrap ((bl : Int) - (tk : Int)) = ((bl - tk : Nat) : Int) := by rw [IntWalk.i64_in _ (by omega)]; omega
  have hw2 : IntKind.i64.wrap ((tk : Int) + (n : Int)) = ((tk + n : Nat) : Int) := by rw [IntWalk.i64_in _ (by omega)]; omega
  obtain ⟨x, hx⟩ : ∃ x : Nat, tk + n = x := ⟨_, rfl⟩
  rw [hx] at hw2
  have HX := Lib.hid hx
  obtain ⟨left, hleft⟩ : ∃ left : Nat, bl - tk = left := ⟨_, rfl⟩
  rw [hleft] at hw hn2 ⊢
  have HLF := Lib.hid hleft
  have hx0 : (0 : Int) ≤ tk := by omega
  have hx1 : (tk : Int) ≤ (x : Int) := by omega
  have hx2 : (x : Int) ≤ (bl : Int) := by omega
  have hx3 : (x : Int) ≤ (e.c : Int) := by omega
  have hn1i : (1 : Int) ≤ n := by omega
  have hn2i : (n : Int) ≤ left := by omega
  have hct : ¬ e.c = tk := by omega
  generalize heg : e.g = eg at *
  generalize hec : e.c = ec at *
  have HEG := Lib.hid heg
  have HEC := Lib.hid hec
  generalize hgo : e.gone = go at *
  have fz : w.frozen? ⟨g1, f, none⟩ = false := own_free HL.out.t
  have fz3 : w.frozen? ⟨g3, f, none⟩ = false := own_free HL.out.g
  have HC := Lib.hid (fun W (hb : Below w.heap.size w W) => (⟨qcells (HR.out.later hb), kept_box hb z1, kept_box hb z2, kept_box hb z3, (bcell hb).2 g1 f (own_in HL.out.t), (bcell hb).2 g3 f (own_in HL.out.g)⟩ : (W.cell? ⟨y, 0, none⟩ = some (.int .i64 room) ∧ W.cell? ⟨y, 1, none⟩ = some (.slice (some ⟨g2, 0, none⟩) q cL) ∧ W.cell? ⟨y, 2, none⟩ = some (.slice (some ⟨g1, 0, none⟩) q cT) ∧ W.cell? ⟨y, 3, none⟩ = some (.slice (some ⟨g3, 0, none⟩) q cG)) ∧ W.cell? ⟨g1, f, none⟩ = some (.int .i64 tk) ∧ W.cell? ⟨g2, f, none⟩ = some (.slice (some ⟨eg, 0, none⟩) bl ec) ∧ W.cell? ⟨g3, f, none⟩ = some (.bool go) ∧ W.frozen? ⟨g1, f, none⟩ = w.frozen? ⟨g1, f, none⟩ ∧ W.frozen? ⟨g3, f, none⟩ = w.frozen? ⟨g3, f, none⟩))
  have HF1 := Lib.hid fz
  have HF3 := Lib.hid fz3
  have hne : y ≠ g1 ∧ y ≠ g3 ∧ g3 ≠ g1 := by
    have q1 := own_row HL.out.t
    have q3 := own_row HL.out.g
    obtain ⟨cs1, q1⟩ := q1
    obtain ⟨cs3, q3⟩ := q3
    exact ⟨Row.apart HR.out q1 (by decide), Row.apart HR.out q3 (by decide), Row.apart q3 q1 (by decide)⟩
  obtain ⟨ne1, ne2, ne3⟩ := hne
  clear h hr hl he e1 e2 e3 e4 e5 e6 hlt hf hq hbl htk hx hleft heg hec hgo fz fz3 hn1 hn2
  go_enter Try.func111, Try.ntmps111
  go_wp2_with (go_at_call 242; (with_reducible refine HF.out.mono ?_); rintro e w1 ⟨rfl, rfl⟩)
  go_quiet (fail)
  have HB1 := Lib.hid (below_drewN (Below.refl w.heap.size w) nq)
  generalize w.drewN nq = wA at *
  clear c0 c1 c2 c3 z1 z2 z3
  obtain ⟨⟨c0, c1, c2, c3⟩, z1, z2, z3, u1, u3⟩ := HC.out wA HB1.out
  go_wp2
  go_quiet (fail)
  have HB2 := Lib.hid (below_drewN HB1.out nq)
  generalize wA.drewN nq = wB at *
  clear c0 c1 c2 c3 z1 z2 z3 u1 u3
  obtain ⟨⟨c0, c1, c2, c3⟩, z1, z2, z3, u1, u3⟩ := HC.out wB HB2.out
  go_wp2
  go_still_tail 15, (by kernel_rfl)
  change wpList _ _ _ _ _ wB.drew
  have HB3 := Lib.hid (bl_drew HB2.out)
  generalize wB.drew = wC at *
  clear c0 c1 c2 c3 z1 z2 z3 u1 u3
  obtain ⟨⟨c0, c1, c2, c3⟩, z1, z2, z3, u1, u3⟩ := HC.out wC HB3.out
  rw [HF1.out] at u1
  rw [HF3.out] at u3
  go_wp2
  go_ret3
  have hbq : ((n : Int) == (left : Int)) = (n == left) := by
    by_cases hh : n = left
    · subst hh; rw [beq_self_eq_true, beq_self_eq_true]
    · have : ¬ ((n : Int) = (left : Int)) := by omega
      rw [beq_eq_false_iff_ne.2 this, beq_eq_false_iff_ne.2 hh]
  refine ⟨ec - tk, ?_, ?_, ?_⟩
  · show Ending.returned (.tuple #[.slice (some ⟨eg, tk, none⟩) (x - tk) (ec - tk), .bool ((n : Int) == (left : Int)), .int .i64 0]) = _
    rw [hbq, show x - tk = n by have := HX.out; omega]
  · rw [hbq]
    have hq2 := (HQ.out.later HB3.out).upd (by rw [HQL.out]; exact HR.out.later HB3.out) (HL.out.later HB3.out) HE.out x (n == left) (by have := HBL.out; omega) (fun hh => by
      have h5 : ¬ n = left := by simpa using hh
      have := HBL.out; have := HX.out; have := HLF.out; omega)
    rw [HEG.out, HEC.out] at hq2
    rw [HX.out]
    exact hq2
  · obtain ⟨cs1, hr1⟩ := own_row HL.out.t
    obtain ⟨cs3, hr3⟩ := own_row HL.out.g
    exact ((Only.of_below HB3.out).set (p := ⟨g1, f, none⟩) (.inl ⟨(own_block HL.out.t g1 rfl).1, 3, cs1, hr1, .inl rfl⟩) _).set (p := ⟨g3, f, none⟩) (.inl ⟨(own_block HL.out.g g3 rfl).1, 4, cs3, hr3, .inr rfl⟩) _
/-- a text by its number, or none -/
def atN (E : List Ent) (n : Nat) : Option Ent := if n = 0 then none else E[n - 1]?
set_option maxRecDepth 100000 in
set_option maxHeartbeats 3200000 in
theorem rq_discard_none (n : Nat) (hn : n < 18446744073709551616) (h : RQ w y B room E) (he : ∀ e, atN E n = some e → e.gone = true) : Calls Try.prog 113 #[.pointer (some ⟨y, 0, none⟩), .int .u64 n] w fun r w' => r = .returned (.int .i64 4) ∧ Below w.heap.size w w' := by
  obtain ⟨AL, cL, AT, cT, AG, cG, hr, hl⟩ := h.row
  have HG := Lib.hid (own_at hl.g)
  obtain ⟨c0, c1, c2, c3⟩ := qcells hr
  have hm := h.many
  have HE := Lib.hid (fun (h1 : 1 ≤ n) (h2 : n ≤ E.length) => by
    have h3 : E[n - 1]? = some E[n - 1] := List.getElem?_eq_getElem (by omega)
    have h4 := he _ (by unfold atN; rw [if_neg (by omega)]; exact h3)
    have h5 := eG_at h3
    rw [h4] at h5
    exact h5)
  generalize E.length = q at *
  have hq0 : IntKind.u64.wrap (q : Int) = (q : Int) := by rw [IntKind.wrap_u64]; omega
  clear h hr hl he
  by_cases h1 : n < 1
  · obtain rfl : n = 0 := by omega
    go_enter Try.func113, Try.ntmps113
    go_wp2
    go_ret
    exact ⟨rfl, Below.refl _ _⟩
  · by_cases h2 : q < n
    · have h1i : ¬ (n : Int) < 1 := by omega
      have h2i : (q : Int) < n := by omega
      clear h1 h2
      go_enter Try.func113, Try.ntmps113
      go_wp2
      go_ret
      exact ⟨rfl, Below.refl _ _⟩
    · have h1i : ¬ (n : Int) < 1 := by omega
      have h2i : ¬ (q : Int) < n := by omega
      obtain ⟨g, rfl, z⟩ := HG.out.cell (HE.out (by omega) (by omega))
      have hw : IntKind.u64.wrap ((n : Int) - 1) = ((n - 1 : Nat) : Int) := by rw [IntKind.wrap_u64]; omega
      have h3 : ((n - 1 : Nat) : Int) < q := by omega
      clear h1 h2
      generalize n - 1 = k at *
      have h30 : (0 : Int) ≤ k := by omega
      go_enter Try.func113, Try.ntmps113
      go_wp2
      go_ret
      exact ⟨rfl, Below.refl _ _⟩
set_option maxRecDepth 100000 in
set_option maxHeartbeats 3200000 in
theorem rq_discard_state (n : Nat) (h : RQ w y B room E) {e : Ent} (hn : 1 ≤ n) (he : E[n - 1]? = some e) (hg : e.gone = false) (ht : 0 < e.tk) : Calls Try.prog 113 #[.pointer (some ⟨y, 0, none⟩), .int .u64 n] w fun r w' => r = .returned (.int .i64 7) ∧ Below w.heap.size w w' := by
  have hlt := (List.getElem?_eq_some_iff.1 he).1
  obtain ⟨AL, cL, AT, cT, AG, cG, hr, hl⟩ := h.row
  obtain ⟨g1, rfl, z1⟩ := (own_at hl.t).cell (eT_at he)
  obtain ⟨g3, rfl, z3⟩ := (own_at hl.g).cell (eG_at he)
  obtain ⟨c0, c1, c2, c3⟩ := qcells hr
  have hm := h.many
  generalize E.length = q at *
  generalize e.tk = tk at *
  rw [hg] at z3
  have hq0 : IntKind.u64.wrap (q : Int) = (q : Int) := by rw [IntKind.wrap_u64]; omega
  have h1i : ¬ (n : Int) < 1 := by omega
  have h2i : ¬ (q : Int) < n := by omega
  have hw : IntKind.u64.wrap ((n : Int) - 1) = ((n - 1 : Nat) : Int) := by rw [IntKind.wrap_u64]; omega
  have h3 : ((n - 1 : Nat) : Int) < q := by omega
  have hti : (0 : Int) < tk := by omega
  clear h hr hl he hg hlt hn ht
  generalize n - 1 = k at *
  have h30 : (0 : Int) ≤ k := by omega
  go_enter Try.func113, Try.ntmps113
  go_wp2
  go_ret
  exact ⟨rfl, Below.refl _ _⟩
set_option maxRecDepth 100000 in
set_option maxHeartbeats 3200000 in
theorem rq_discard (n : Nat) (h : RQ w y B room E) {e : Ent} (hn : 1 ≤ n) (he : E[n - 1]? = some e) (hg : e.gone = false) (ht : e.tk = 0) : Calls Try.prog 113 #[.pointer (some ⟨y, 0, none⟩), .int .u64 n] w fun r w' => r = .returned (.int .i64 0) ∧ RQ w' y B room (E.set (n - 1) { e with tk := e.tk, gone := true }) ∧ Only (S34 B w) w w' := by
  have hlt := (List.getElem?_eq_some_iff.1 he).1
  have HQ := Lib.hid h
  have HE := Lib.hid he
  obtain ⟨AL, cL, AT, cT, AG, cG, hr, hl⟩ := h.row
  obtain ⟨g1, rfl, z1⟩ := (own_at hl.t).cell (eT_at he)
  obtain ⟨g3, rfl, z3⟩ := (own_at hl.g).cell (eG_at he)
  have HF := Lib.hid (fun (d : Nat) => h.gone hr hl he true (fun hh => by cases hh))
  have f3 : w.frozen? ⟨g3, n - 1, none⟩ = false := own_free hl.g
  have HO := Lib.hid (show Only (S34 B w) w (w.setCell ⟨g3, n - 1, none⟩ (.bool true)) from by
    obtain ⟨cs3, hr3⟩ := own_row hl.g
    exact (Only.refl (S34 B w) w).set (p := ⟨g3, n - 1, none⟩) (.inl ⟨(own_block hl.g g3 rfl).1, 4, cs3, hr3, .inr rfl⟩) _)
  obtain ⟨c0, c1, c2, c3⟩ := qcells hr
  have hm := h.many
  rw [ht] at z1
  rw [hg] at z3
  generalize E.length = q at *
  have hq0 : IntKind.u64.wrap (q : Int) = (q : Int) := by rw [IntKind.wrap_u64]; omega
  have h1i : ¬ (n : Int) < 1 := by omega
  have h2i : ¬ (q : Int) < n := by omega
  have hw : IntKind.u64.wrap ((n : Int) - 1) = ((n - 1 : Nat) : Int) := by rw [IntKind.wrap_u64]; omega
  have h3 : ((n - 1 : Nat) : Int) < q := by omega
  clear h hr hl he hg hlt hn ht
  generalize n - 1 = k at *
  have h30 : (0 : Int) ≤ k := by omega
  go_enter Try.func113, Try.ntmps113
  go_wp2
  go_ret
  exact ⟨rfl, HF.out 0, HO.out⟩
def allGone (E : List Ent) (k : Nat) : List Ent := (E.take k).map (fun e => { e with tk := e.tk, gone := true }) ++ E.drop k
theorem allGone_len (E : List Ent) (k : Nat) : (allGone E k).length = E.length := by
  unfold allGone
  rw [List.length_append, List.length_map, List.length_take, List.length_drop]
  omega
theorem allGone_at {k : Nat} : (allGone E k)[k]? = E[k]? := by
  unfold allGone
  by_cases hk : k < E.length
  · rw [List.getElem?_append_right (by simp; omega), List.length_map, List.length_take, Nat.min_eq_left (by omega), Nat.sub_self, List.getElem?_drop]
    simp
  · rw [List.getElem?_eq_none (by rw [List.length_append, List.length_map, List.length_take, List.length_drop]; omega), List.getElem?_eq_none (by omega)]
theorem allGone_succ {k : Nat} {e : Ent} (h : E[k]? = some e) : (allGone E k).set k { e with tk := e.tk, gone := true } = allGone E (k + 1) := by
  have hk := (List.getElem?_eq_some_iff.1 h).1
  unfold allGone
  rw [List.set_append_right _ _ (by simp; omega), List.take_add_one, h, List.map_append, List.append_assoc]
  congr 1
  have hd : E.drop k = e :: E.drop (k + 1) := by
    rw [List.drop_eq_getElem_cons hk, (List.getElem?_eq_some_iff.1 h).2]
  rw [List.length_map, List.length_take, Nat.min_eq_left (by omega), Nat.sub_self, hd]
  rfl
set_option maxRecDepth 100000 in
set_option maxHeartbeats 3200000 in
theorem rq_clear (h : RQ w y B room E) : Calls Try.prog 116 #[.pointer (some ⟨y, 0, none⟩)] w fun r w' => ∃ A c, r = .returned (.slice A (idk E E.length).length c) ∧ SlAt w.heap.size 33 w' A (u64v (idk E E.length)) ∧ RQ w' y B room (allGone E E.length) ∧ Only (S34 B w) w w' := by
  have HI := Lib.hid (rq_ids h)
  obtain ⟨AL, cL, AT, cT, AG, cG, hr, hl⟩ := h.row
  have HQ := Lib.hid h
  have HR := Lib.hid hr
  have HLL := Lib.hid hl
  have HNX := Lib.hid (fun i (hi : i < E.length) => (⟨_, List.getElem?_eq_getElem hi⟩ : ∃ e, E[i]? = some e))
  have hm := h.many
  generalize idk E E.length = ids at *
  generalize hn : E.length = n at *
  have HN := Lib.hid hn
  clear h hr hl hn
  go_enter Try.func116, Try.ntmps116
  go_wp2_with (go_at_call 122; (with_reducible refine HI.out.mono ?_); rintro e w1 ⟨A1, c1', rfl, hs, hb⟩; (have HS := Lib.hid hs; have HB1 := Lib.hid hb; clear hs hb))
  go_loopw [4] (fun s4 wr => ∃ i : Nat, i ≤ n ∧ s4 = .int .i64 i ∧ Hid (RQ wr y B room (allGone E i)) ∧ Hid (∃ cL, Row wr y 161 #[.int .i64 room, .slice AL n cL, .slice AT n cT, .slice AG n cG] ∧ RL wr B (allGone E i) AL AT AG cL cT cG) ∧ Hid (SlAt w.heap.size 33 wr A1 (u64v ids)) ∧ Hid (Only (S34 B w) w wr)) (fun s4 _ => n - (intOf s4).toNat)
  case atStart => exact ⟨0, by omega, rfl, Lib.hid (HQ.out.later HB1.out), Lib.hid ⟨cL, HR.out.later HB1.out, HLL.out.later HB1.out⟩, HS, Lib.hid (.of_below HB1.out)⟩
  case round =>
    obtain ⟨i, hi, rfl, HQr, HRr, HSr, HOr⟩ := hrel
    obtain ⟨cL', hrr, hlr⟩ := HRr.out
    obtain ⟨c0, c1, c2, c3⟩ := qcells hrr
    by_cases hlt : i < n
    · obtain ⟨e, he⟩ := HNX.out i hlt
      have he2 : (allGone E i)[i]? = some e := allGone_at.trans he
      obtain ⟨g3, rfl, z3⟩ := (own_at hlr.g).cell (eG_at he2)
      have f3 : wr.frozen? ⟨g3, i, none⟩ = false := own_free hlr.g
      have h1 : (i : Int) < n := by omega
      have h0 : (0 : Int) ≤ i := by omega
      have hrr2 : Row wr y 161 #[.int .i64 room, .slice AL (allGone E i).length cL', .slice AT (allGone E i).length cT, .slice (some ⟨g3, 0, none⟩) (allGone E i).length cG] := by rw [allGone_len, HN.out]; exact hrr
      have HG := Lib.hid (HQr.out.gone hrr2 hlr he2 true (fun hh => by cases hh))
      have HSU := Lib.hid (allGone_succ he)
      obtain ⟨cs3, hr3⟩ := own_row hlr.g
      have HT3 := Lib.hid hr3
      have hold : g3 < w.heap.size ∧ B ≤ g3 := by
        have hg0 := own_in HLL.out.g
        exact ⟨hg0, (own_block HLL.out.g g3 rfl).1⟩
      have HOLD := Lib.hid hold
      have HW4 := Lib.hid (own_row HLL.out.g)
      have HLX := Lib.hid hlr
      have HRX := Lib.hid hrr
      have HLT := Lib.hid hlt
      have HE2 := Lib.hid he2
      clear he he2 hlt hr3 hold hrr2 hlr hrr
      go_wp2
      go_roundw
      case rel => exact ⟨i + 1, by have := HLT.out; omega, by go_num, Lib.hid (by rw [← HSU.out]; exact HG.out), Lib.hid ⟨cL', HRX.out.elsewhere (Row.apart HRX.out HT3.out (by decide)) _, by rw [← HSU.out]; exact HLX.out.gone HE2.out true⟩, Lib.hid (HSr.out.only ((Only.refl (fun k => k = g3) wr).set (p := ⟨g3, i, none⟩) (.inl rfl) _) (fun g cs hr _ e => by subst e; exact Row.apart hr HT3.out (by decide) rfl)), Lib.hid (HOr.out.set (p := ⟨g3, i, none⟩) (.inl (by obtain ⟨cs4, h4⟩ := HW4.out; exact ⟨HOLD.out.2, 4, cs4, h4, .inr rfl⟩)) _)⟩
      case measure => have := HLT.out; simp [intOf]; omega
    · have h1 : ¬ (i : Int) < n := by omega
      obtain rfl : i = n := by omega
      clear hlt
      go_wp2
      go_ret
      exact ⟨A1, ⟨c1', rfl⟩, HSr.out, HQr.out, HOr.out⟩
end
end Go.Proofs.Ytgdpjaojlhdhdaa
