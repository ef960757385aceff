/-
  What a queue holds in memory: texts, each with its bytes; a list that may share its memory with an older one. The calls of package queue that only ask, and its small functions. An append whose run is known, at a drawn region. The document's queue: a text pushed (the steps of its drawn region). poll: a poller and the document's, side by side; how the calls that PollLives takes read. A law's row follows from its walk: the call returns true, and below the heap's old size the world is as it was; then every argument reads as it did. How the calls that PollLives takes read.
-/
import Derived.Test.YtfgjlhklioijmaaJPollLives01
import Derived.Laws.BytesString
import Derived.Laws.IdiomStrings
import Derived.Laws.MakeOwn
import Derived.Deep.RegionLaw
import Derived.Deep.AppendLies
import Derived.Outline
import Derived.Test.YtfgjlhklioijmaaJPollLives02
import Derived.Test.YtfgjlhklioijmaaRows
import Derived.WalkKit
import Derived.ProofKit
import Derived.OpenShut
import Derived.Deep.Slices
import Derived.Deep.SlicePairs
import Derived.Lib.SmallJoins
namespace Go.Proofs.Ytfgjlhklioijmaa
open Go.RowKit

theorem Try.qinfo5 : (Try.prog.info? 5).map (fun i => (i.zero, i.size, i.bytes)) = some (some (.int .u8 0), 1, 1) := by kernel_rfl
theorem qinfo5_parts : ∃ i, Try.prog.info? 5 = some i ∧ i.zero = some (.int .u8 0) ∧ i.size = 1 ∧ i.bytes = 1 := info_parts Try.qinfo5
theorem Try.info251 : (Try.prog.info? 251).map (fun i => (i.zero, i.size, i.bytes)) = some (some (.agg #[.int .u64 0, .slice none 0 0, .bool false]), 3, 40) := by kernel_rfl
theorem info251_parts : ∃ i, Try.prog.info? 251 = some i ∧ i.zero = some (.agg #[.int .u64 0, .slice none 0 0, .bool false]) ∧ i.size = 3 ∧ i.bytes = 40 := info_parts Try.info251

/-- bytes as values -/
def qbts (l : List Nat) : List Value := l.map fun b : Nat => .int .u8 b
theorem qlength_bts (l : List Nat) : (qbts l).length = l.length := by simp [qbts]
theorem qbts_one (l : List Nat) : ∀ v ∈ qbts l, v.oneCell' = true := by
  intro v hv
  simp only [qbts, List.mem_map] at hv
  obtain ⟨b, _, rfl⟩ := hv
  rfl
theorem qbts_at {l : List Nat} {i b : Nat} (h : l[i]? = some b) : (qbts l)[i]? = some (.int .u8 b) := by simp [qbts, h]
theorem qbts_append (l k : List Nat) : qbts (l ++ k) = qbts l ++ qbts k := by simp [qbts]
theorem qbts_drop (l : List Nat) (n : Nat) : qbts (l.drop n) = (qbts l).drop n := by simp [qbts]

/-- where a slice's cells lie -/
def QSrcB (w : World) (A : Option Addr) (xs : List Value) : Prop := 0 < xs.length → ∃ b off, A = some ⟨b, off, none⟩ ∧ ∀ j u, xs[j]? = some u → w.cell? ⟨b, off + j, none⟩ = some u
theorem QSrcB.later {w v : World} {A : Option Addr} {xs : List Value} (h : QSrcB w A xs) (hb : Below w.heap.size w v) : QSrcB v A xs := by
  intro h0
  obtain ⟨b, off, rfl, hc⟩ := h h0
  exact ⟨b, off, rfl, fun j u hu => kept_box hb (hc j u hu)⟩

/-- a list of the call's own, whose memory may reach beyond what it can hold -/
def OwnX (w : World) (B e size : Nat) (v : Value) (n : Nat) (xs : List Value) : Prop :=
  xs.length = n * size ∧ ((v = .slice none 0 0 ∧ n = 0) ∨
    ∃ g cap cur, v = .slice (some ⟨g, 0, none⟩) n cap ∧ B ≤ g ∧ w.heap[g]? = some (.cells cur e (0, 0)) ∧ n ≤ cap ∧ cap ≤ maxLen ∧ cap * size ≤ cur.size ∧ cur.toList.take (n * size) = xs)
section
variable {w v : World} {B e size : Nat} {x : Value} {n : Nat} {xs : List Value}
theorem OwnX.nil : OwnX w B e size (.slice none 0 0) 0 [] := ⟨by simp, .inl ⟨rfl, rfl⟩⟩
theorem OwnX.of (h : w.ownsRow B e size x n xs) : OwnX w B e size x n xs := by
  refine ⟨h.1, ?_⟩
  rcases h.2 with h0 | ⟨g, cap, cur, h1, h2, h3, h4, h5, h6, h7⟩
  · exact .inl h0
  · exact .inr ⟨g, cap, cur, h1, h2, h3, h4, h5, by omega, h7⟩
theorem OwnX.lt (h : OwnX w B e size x n xs) : ∀ k, x.ownBlock = some k → B ≤ k ∧ k < w.heap.size := by
  intro k hk
  rcases h.2 with ⟨rfl, _⟩ | ⟨g, cap, cur, rfl, hb, hh, _⟩
  · simp [Value.ownBlock] at hk
  · have e : g = k := by simpa [Value.ownBlock] using hk
    subst e
    refine ⟨hb, ?_⟩
    rcases Nat.lt_or_ge g w.heap.size with h1 | h1
    · exact h1
    · rw [Array.getElem?_eq_none h1] at hh; cases hh
theorem OwnX.only {S : Nat → Prop} (h : OwnX w B e size x n xs) (ho : Only S w v) (hS : ∀ k, x.ownBlock = some k → ¬ S k) : OwnX v B e size x n xs := by
  refine ⟨h.1, ?_⟩
  rcases h.2 with h0 | ⟨g, cap, cur, rfl, hb, hh, h1⟩
  · exact .inl h0
  · exact .inr ⟨g, cap, cur, rfl, hb, (ho.same g (h.lt g rfl).2 (hS g rfl)).trans hh, h1⟩
theorem OwnX.kept {row : Option Nat} (h : OwnX w B e size x n xs) (hg : w.grownBy v row) (hne : ∀ k, x.ownBlock = some k → row ≠ some k) : OwnX v B e size x n xs := by
  refine ⟨h.1, ?_⟩
  rcases h.2 with h0 | ⟨g, cap, cur, rfl, hb, hh, h1⟩
  · exact .inl h0
  · exact .inr ⟨g, cap, cur, rfl, hb, (hg.block g (h.lt g rfl).2 (fun e => hne g rfl e.symm)).trans hh, h1⟩
theorem OwnX.alloc (h : OwnX w B e size x n xs) (o : Obj) : OwnX (w.alloc o) B e size x n xs :=
  h.only (S := fun _ => False) (.of_below (bl_alloc (Below.refl _ _) o)) (fun _ _ h => h)
theorem OwnX.drawn (h : OwnX w B e size x n xs) : OwnX w.drew B e size x n xs := h
theorem OwnX.shape (h : OwnX w B e size x n xs) : ∃ A cap, x = .slice A n cap ∧ n ≤ cap ∧ cap ≤ maxLen := by
  rcases h.2 with ⟨rfl, h0⟩ | ⟨g, cap, cur, rfl, _, _, h1, h2, _⟩
  · exact ⟨none, 0, by rw [h0], by omega, by simp [maxLen]⟩
  · exact ⟨_, cap, rfl, h1, h2⟩
theorem add_zero_q (g j : Nat) : (⟨g, 0, none⟩ : Addr).add j = ⟨g, j, none⟩ := by
  unfold Addr.add
  split
  · rename_i h
    rw [h]
  · simp
theorem OwnX.cells (h : OwnX w B e size x n xs) {g : Nat} (hg : x.ownBlock = some g) : ∀ j u, xs[j]? = some u → w.cell? ⟨g, j, none⟩ = some u := by
  intro j u hu
  rcases h.2 with ⟨rfl, _⟩ | ⟨g', cap, cur, rfl, _, hgg, _, _, _, htake⟩
  · simp [Value.ownBlock] at hg
  · simp [Value.ownBlock] at hg
    subst hg
    rw [cell_of_row w g' j cur e (0, 0) hgg]
    rw [← htake, List.getElem?_take] at hu
    split at hu
    · simpa using hu
    · cases hu
theorem OwnX.free (h : OwnX w B e size x n xs) {g : Nat} (hg : x.ownBlock = some g) (i : Nat) : w.frozen? ⟨g, i, none⟩ = false := by
  rcases h.2 with ⟨rfl, _⟩ | ⟨g', cap, cur, rfl, _, hgg, _⟩
  · simp [Value.ownBlock] at hg
  · simp [Value.ownBlock] at hg
    subst hg
    simp [World.frozen?, hgg]
theorem OwnX.form (h : OwnX w B e size x n xs) (hn : 0 < n) : ∃ g cap, x = .slice (some ⟨g, 0, none⟩) n cap ∧ n ≤ cap ∧ cap ≤ maxLen := by
  rcases h.2 with ⟨_, h0⟩ | ⟨g, cap, cur, hv, _, _, h1, h2, _⟩
  · omega
  · exact ⟨g, cap, hv, h1, h2⟩
/-- one cell written -/
theorem OwnX.stored (h : OwnX w B e size x n xs) {g : Nat} (hg : x.ownBlock = some g) (j : Nat) (u : Value) : OwnX (w.setCell ⟨g, j, none⟩ u) B e size x n (xs.set j u) := by
  refine ⟨by rw [List.length_set]; exact h.1, ?_⟩
  rcases h.2 with ⟨rfl, _⟩ | ⟨g', cap, cur, rfl, hb, hh, h1, h2, h3, h4⟩
  · simp [Value.ownBlock] at hg
  · simp [Value.ownBlock] at hg
    subst hg
    refine .inr ⟨g', cap, cur.setIfInBounds j u, rfl, hb, ?_, h1, h2, by simpa using h3, ?_⟩
    · simp [World.setCell, Array.getElem?_modify, hh]
    · rw [Array.toList_setIfInBounds, List.take_set, h4]
/-- the first elements alone -/
theorem OwnX.front (h : OwnX w B e size x n xs) {m : Nat} (hm : m ≤ n) (A : Option Addr) (cap : Nat) (hx : x = .slice A n cap) (h0 : 0 < n) : OwnX w B e size (.slice A m m) m (xs.take (m * size)) := by
  have hle : m * size ≤ n * size := Nat.mul_le_mul_right _ hm
  refine ⟨by rw [List.length_take, h.1]; omega, ?_⟩
  rcases h.2 with ⟨_, hn⟩ | ⟨g, c, cur, rfl, hb, hh, h1, h2, h3, h4⟩
  · omega
  · injection hx with hA _ _
    subst hA
    have hc : m * size ≤ c * size := Nat.mul_le_mul_right _ (by omega)
    refine .inr ⟨g, m, cur, rfl, hb, hh, Nat.le_refl _, by omega, by omega, ?_⟩
    rw [← h4, List.take_take]
    congr 1
    omega
end

/-- append to such a list -/
theorem run_append_x {P : Program} {w : World} {B t ty e : Nat} {i : TypeInfo} {z : Value} {size bytes : Nat} (ht : P.underlying t = some (.slice e)) (hi : P.info? e = some i) (hz : i.zero = some z)
    (hsize : i.size = size) (hby : i.bytes = bytes) (hzs : z.cells.size = size)
    {v : Value} {n : Nat} {xs : List Value} (hown : OwnX w B e size v n xs)
    (a : Addr) (m c : Nat) (news : List Value) (hl : news.length = m * size) (hnews : ∀ j u, news[j]? = some u → w.cell? (a.add j) = some u) (h1 : ∀ u ∈ news, u.oneCell' = true)
    (h63 : n + m ≤ 1000000000) (hbytes : (n + m) * bytes ≤ 140737488355328) (hbase : B ≤ w.heap.size) :
    ∃ v' w', (Builtin.append_ #[t, t] ty #[v, .slice (some a) m c]).run P w = .ok v' w' ∧ OwnX w' B e size v' (n + m) (xs ++ news) ∧ w.grownBy w' v.ownBlock ∧ (v'.ownBlock = v.ownBlock ∨ v'.ownBlock = some w.heap.size) := by
  subst hsize
  subst hby
  have hlen : (xs ++ news).length = (n + m) * i.size := by rw [List.length_append, hown.1, hl, Nat.add_mul]
  have grown : ∀ (old : Nat), old < n + m → ∀ (row : Option Nat),
      OwnX (w.drew.alloc (.cells (xs.toArray ++ news.toArray ++ Builtin.zeroCells z.cells (grownCap w (n + m) old e - (n + m))) e)) B e i.size
        (.slice (some ⟨w.heap.size, 0, none⟩) (n + m) (grownCap w (n + m) old e)) (n + m) (xs ++ news) ∧
      w.grownBy (w.drew.alloc (.cells (xs.toArray ++ news.toArray ++ Builtin.zeroCells z.cells (grownCap w (n + m) old e - (n + m))) e)) row := by
    intro old ho row
    have hge := grownCap_ge w (n + m) old e
    have hcm : grownCap w (n + m) old e ≤ maxLen := grownCap_le_maxLen w (n + m) old e (by unfold maxLen; omega)
    refine ⟨⟨hlen, .inr ⟨w.heap.size, _, _, rfl, hbase, heap_alloc_new w.drew _, hge, hcm, ?_, ?_⟩⟩, ⟨rfl, rfl, rfl, by simp, fun k hk _ => Below.heap_alloc w.drew _ k hk⟩⟩
    · simp only [Array.size_append, List.size_toArray, size_zeroCells, hzs, hown.1, hl, ← Nat.add_mul]
      exact Nat.mul_le_mul_right _ (by omega)
    · simp only [Array.toList_append, List.append_assoc]
      rw [← List.append_assoc, ← hlen]
      exact List.take_left
  rcases hown.2 with ⟨rfl, rfl⟩ | ⟨g, cap, cur, rfl, hbg, hg, hnc, hcm, hcs, htake⟩
  · have hx : xs = [] := List.eq_nil_of_length_eq_zero (by simpa using hown.1)
    subst hx
    by_cases hm : m = 0
    · subst hm
      have hn : news = [] := List.eq_nil_of_length_eq_zero (by simpa using hl)
      subst hn
      refine ⟨.slice none 0 0, w, ?_, OwnX.nil, ⟨rfl, rfl, rfl, Nat.le_refl _, fun _ _ _ => rfl⟩, .inl rfl⟩
      simp [Builtin.append_, run_underlying ht, sizeOf, typeInfo, hi, Builtin.lenOf, Builtin.firstCells, loadCells, loadCellsFrom]
    · have hr := run_append_nil (P := P) w t ty e i z ht hi hz a m c news hl hnews (by omega) (by omega) (by have hb := hbytes; simp only [Nat.zero_add] at hb; omega)
      have hgr := grown 0 (by omega) (Value.ownBlock (.slice none 0 0))
      simp only [Nat.zero_add, List.nil_append, Array.empty_append] at hgr ⊢
      exact ⟨_, _, hr, hgr.1, hgr.2, .inr rfl⟩
  · by_cases hroom : n + m ≤ cap
    · have hc' : (n + m) * i.size ≤ cap * i.size := Nat.mul_le_mul_right _ hroom
      have hfit : n * i.size + news.length ≤ cur.size := by rw [hl, ← Nat.add_mul]; omega
      have hr := run_append_room (P := P) w t ty e i ht hi g n cap cur hg a m c news hl hnews h1 hroom hfit
      refine ⟨_, _, hr, ⟨hlen, .inr ⟨g, cap, _, rfl, hbg, setRow_heap w g cur _ e _ hg, hroom, hcm, ?_, ?_⟩⟩, ⟨rfl, rfl, rfl, by simp, fun k _ hk => setRow_other w g k _ (fun e => hk (by simp [Value.ownBlock, e]))⟩, .inl rfl⟩
      · simp only [List.size_toArray, List.length_append, List.length_take, List.length_drop, Array.length_toList]
        omega
      · rw [htake, ← hlen]
        exact List.take_left
    · have holds : ∀ j u, xs[j]? = some u → w.cell? ((⟨g, 0, none⟩ : Addr).add j) = some u := fun j u hu => by rw [add_zero_q]; exact hown.cells (g := g) rfl j u hu
      have hr := run_append_grow (P := P) w t ty e i z ht hi hz ⟨g, 0, none⟩ n cap xs hown.1 holds a m c news hl hnews (by omega) (by omega) (growslice_fits (by omega) hbytes)
      have hgr := grown cap (by omega) (Value.ownBlock (.slice (some ⟨g, 0, none⟩) n cap))
      exact ⟨_, _, hr, hgr.1, hgr.2, .inr rfl⟩

/-- a text: its number, where its bytes lie, its bytes, whether some of it was taken -/
structure Txt where
  id : Nat
  g : Nat
  off : Nat
  cap : Nat
  bs : List Nat
  bg : Bool
def Txt.waits (t : Txt) : Value := .slice (some ⟨t.g, t.off, none⟩) t.bs.length t.cap
def txc (ts : List Txt) : List Value := ts.flatMap fun t => [.int .u64 t.id, t.waits, .bool t.bg]
theorem txc_cons (t : Txt) (r : List Txt) : txc (t :: r) = .int .u64 t.id :: t.waits :: .bool t.bg :: txc r := rfl
theorem txc_append (a b : List Txt) : txc (a ++ b) = txc a ++ txc b := by simp [txc]
theorem length_txc (ts : List Txt) : (txc ts).length = ts.length * 3 := by
  induction ts with
  | nil => rfl
  | cons t r ih => rw [txc_cons]; simp [ih]; omega
theorem txc_one (ts : List Txt) : ∀ v ∈ txc ts, v.oneCell' = true := by
  intro v hv
  simp only [txc, List.mem_flatMap] at hv
  obtain ⟨t, _, hv⟩ := hv
  simp at hv
  rcases hv with rfl | rfl | rfl <;> rfl
theorem txc_at {ts : List Txt} {i : Nat} {t : Txt} (h : ts[i]? = some t) : (txc ts)[i * 3]? = some (.int .u64 t.id) ∧ (txc ts)[i * 3 + 1]? = some t.waits ∧ (txc ts)[i * 3 + 2]? = some (.bool t.bg) := by
  induction ts generalizing i with
  | nil => simp at h
  | cons z r ih =>
    cases i with
    | zero => simp at h; subst h; exact ⟨rfl, rfl, rfl⟩
    | succ i =>
      have h2 := ih (i := i) (by simpa using h)
      rw [txc_cons, show (i + 1) * 3 = i * 3 + 1 + 1 + 1 by omega]
      simpa using h2
theorem txc_take (ts : List Txt) (k : Nat) : (txc ts).take (k * 3) = txc (ts.take k) := by
  induction ts generalizing k with
  | nil => simp [txc]
  | cons t r ih =>
    cases k with
    | zero => simp [txc]
    | succ k =>
      rw [txc_cons, show (k + 1) * 3 = k * 3 + 1 + 1 + 1 by omega, List.take_succ_cons, List.take_succ_cons, List.take_succ_cons, ih, List.take_succ_cons, txc_cons]
theorem txc_drop (ts : List Txt) (k : Nat) : (txc ts).drop (k * 3) = txc (ts.drop k) := by
  induction ts generalizing k with
  | nil => simp [txc]
  | cons t r ih =>
    cases k with
    | zero => simp
    | succ k =>
      rw [txc_cons, show (k + 1) * 3 = k * 3 + 1 + 1 + 1 by omega, List.drop_succ_cons, List.drop_succ_cons, List.drop_succ_cons, ih, List.drop_succ_cons]

/-- a text's bytes lie where it says -/
def Txt.lies (B : Nat) (w : World) (t : Txt) : Prop :=
  B ≤ t.g ∧ t.bs.length ≤ t.cap ∧ t.cap ≤ 9223372036854775807 ∧ ∃ cs, Row w t.g 5 cs ∧ ∀ j b, t.bs[j]? = some b → cs[t.off + j]? = some (.int .u8 (b : Nat))
theorem Txt.lies.only {B : Nat} {w v : World} {t : Txt} {S : Nat → Prop} (h : t.lies B w) (ho : Only S w v) (hS : ¬ S t.g) : t.lies B v := by
  obtain ⟨h1, h2, h3, cs, h4, h5⟩ := h
  exact ⟨h1, h2, h3, cs, h4.only ho hS, h5⟩
theorem Txt.lies.src {B : Nat} {w : World} {t : Txt} (h : t.lies B w) : QSrcB w (some ⟨t.g, t.off, none⟩) (qbts t.bs) := by
  obtain ⟨_, _, _, cs, h4, h5⟩ := h
  intro _
  refine ⟨_, _, rfl, fun j u hu => ?_⟩
  have hj : j < t.bs.length := by have := (List.getElem?_eq_some_iff.1 hu).1; rw [qlength_bts] at this; exact this
  have hb := qbts_at (List.getElem?_eq_getElem hj)
  rw [hu] at hb
  injection hb with hb
  rw [hb]
  exact h4.read (h5 j _ (List.getElem?_eq_getElem hj))

/-- the queue at block p has this room, this last number, these texts; all above block B -/
def QRep (B : Nat) (w : World) (p : Nat) (room : Int) (last : Nat) (ts : List Txt) : Prop :=
  B ≤ p ∧ B ≤ w.heap.size ∧ ∃ sv, Row w p 114 #[.int .i64 room, .int .u64 last, sv] ∧ OwnX w B 251 3 sv ts.length (txc ts) ∧ ∀ t ∈ ts, t.lies B w
theorem QRep.only {B : Nat} {w v : World} {p : Nat} {room : Int} {last : Nat} {ts : List Txt} {S : Nat → Prop} (h : QRep B w p room last ts) (ho : Only S w v) (hS : ∀ k, S k → k < B) : QRep B v p room last ts := by
  obtain ⟨h1, h2, sv, h3, h4, h5⟩ := h
  exact ⟨h1, by have := ho.size; omega, sv, h3.only ho (fun hk => by have := hS _ hk; omega), h4.only ho (fun k hk hk' => by have := (h4.lt k hk).1; have := hS _ hk'; omega), fun t ht => (h5 t ht).only ho (fun hk => by have := hS _ hk; have := (h5 t ht).1; omega)⟩
theorem QRep.later {B : Nat} {w v : World} {p : Nat} {room : Int} {last : Nat} {ts : List Txt} (h : QRep B w p room last ts) (hb : Below w.heap.size w v) : QRep B v p room last ts :=
  h.only (S := fun _ => False) (.of_below hb) (fun _ h => h.elim)
end Go.Proofs.Ytfgjlhklioijmaa
namespace Go.Proofs.Ytfgjlhklioijmaa
open Go.RowKit

theorem wpList_append_is {P : Program} {w : World} {ops : Array Oper} {rest : List Oper} {o : Oper} {a : Act} {Q : Exit → Act → World → Prop} (hgd : o.guard = none) (s x : Operand) (t : TypeId)
    (ho : o.op = .call { callee := .builtin .append, args := #[s, x], argTypes := #[t, t] }) (v u : Value) (hs : a.eval s = v) (hx : a.eval x = u) {v' : Value} {w' : World}
    (hr : (Builtin.append_ #[t, t] o.type #[v, u]).run P w = .ok v' w') (h : wpList P ops Q rest (a.put o.dst v') w') : wpList P ops Q (o :: rest) a w :=
  wpList_plain hgd fun _ hK => by
    unfold Oper.wp execOp
    simp only [ho, resolve, invoke, builtin, Sem.run_bind, Sem.run_pure, Result.andThen_ok, List.map_toArray, List.map_cons, List.map_nil, hs, hx, hr]
    exact hK _ _ h

set_option maxHeartbeats 400000 in
theorem none_nil (w : World) : Calls Try.prog 175 #[.pointer none] w fun e w' => e = .returned (.bool true) ∧ w = w' := by
  go_enter Try.func175, Try.ntmps175
  go_wp2
  go_ret
  exact ⟨rfl, rfl⟩
set_option maxHeartbeats 400000 in
theorem none_zero {p : Nat} {w : World} {a b : Value} (h : Row w p 114 #[.int .i64 0, a, b]) : Calls Try.prog 175 #[.pointer (some ⟨p, 0, none⟩)] w fun e w' => e = .returned (.bool true) ∧ w = w' := by
  have c0 := h.read (i := 0) rfl
  clear h
  go_enter Try.func175, Try.ntmps175
  go_wp2
  go_ret
  exact ⟨rfl, rfl⟩
set_option maxHeartbeats 400000 in
theorem none_not {p : Nat} {room : Int} {w : World} {a b : Value} (h : Row w p 114 #[.int .i64 room, a, b]) (hr : 0 < room) : Calls Try.prog 175 #[.pointer (some ⟨p, 0, none⟩)] w fun e w' => e = .returned (.bool false) ∧ w = w' := by
  have c0 := h.read (i := 0) rfl
  have h0 : (room == 0) = false := by simp; omega
  clear h
  go_enter Try.func175, Try.ntmps175
  go_wp2
  go_ret
  exact ⟨rfl, rfl⟩

/-- new memory with these bytes -/
def Fresh (w : World) (l : List Nat) (g : Nat) (w' : World) : Prop := w.heap.size ≤ g ∧ (∃ cs : Array Value, Row w' g 5 cs ∧ ∀ (j b : Nat), l[j]? = some b → cs[j]? = some (Value.int .u8 (b : Nat))) ∧ Below w.heap.size w w'
def CopyDone (l : List Nat) (w : World) (e : Ending) (w' : World) : Prop := ∃ g, e = .returned (.slice (some ⟨g, 0, none⟩) l.length l.length) ∧ Fresh w l g w'

theorem copy_fresh {w : World} {A : Option Addr} {c : Nat} {l : List Nat} (hs : QSrcB w A (qbts l)) (h0 : 0 < l.length) (hn : l.length ≤ 1000000) :
    ∃ cap w', (Builtin.append_ #[30, 30] 30 #[.slice none 0 0, .slice A l.length c]).run Try.prog w = .ok (.slice (some ⟨w.heap.size, 0, none⟩) l.length cap) w' ∧ l.length ≤ cap ∧ cap ≤ maxLen ∧ Fresh w l w.heap.size w' := by
  obtain ⟨i, hi, hz, hsz, hb⟩ := qinfo5_parts
  obtain ⟨b, off, rfl, hc⟩ := hs (by rw [qlength_bts]; exact h0)
  have hr := run_append_nil (P := Try.prog) w 30 30 5 i _ Try.underlying30 hi hz ⟨b, off, none⟩ l.length c (qbts l) (by rw [hsz, Nat.mul_one, qlength_bts])
    (fun j u hu => by
      have := hc j u hu
      have e : (⟨b, off, none⟩ : Addr).add j = ⟨b, off + j, none⟩ := by
        unfold Addr.add
        split
        · rename_i h; rw [h]; rfl
        · rfl
      rw [e]; exact this) h0 (by omega) (by rw [hb]; omega)
  refine ⟨_, _, hr, grownCap_ge _ _ _ _, grownCap_le_maxLen _ _ _ _ (by unfold maxLen; omega), Nat.le_refl _, ⟨_, heap_alloc_new w.drew _, fun j x hx => ?_⟩, bl_alloc (bl_drew (Below.refl _ _)) _⟩
  have h1 := qbts_at hx
  have hl : j < (qbts l).length := (List.getElem?_eq_some_iff.1 h1).1
  rw [Array.getElem?_append_left (by simpa using hl)]
  simpa using h1

set_option maxHeartbeats 800000 in
theorem qcopied_any (A : Option Addr) (c : Nat) (l : List Nat) (w : World) (hs : QSrcB w A (qbts l)) (h0 : 0 < l.length) (hn : l.length ≤ 1000000) :
    Calls Try.prog 176 #[.slice A l.length c] w (CopyDone l w) := by
  obtain ⟨cap, w1, hr, hc1, hc2, hf⟩ := copy_fresh (c := c) hs h0 hn
  have HF : Hid (CopyDone l w (.returned (.slice (some ⟨w.heap.size, 0, none⟩) l.length l.length)) w1) := Lib.hid ⟨_, rfl, hf⟩
  have HR := Lib.hid hr
  unfold maxLen at hc2
  clear hr hf hs
  go_enter Try.func176, Try.ntmps176
  go_wp2_with (at_builtin; refine wpList_append_is rfl (.const (.slice none 0 0)) (.tmp 4) 30 rfl _ _ rfl rfl HR.out ?_)
  go_ret
  exact HF.out

set_option maxHeartbeats 400000 in
theorem qnew_any (B : Nat) (room : Int) (w : World) (hB : B ≤ w.heap.size) (h1 : 1 ≤ room) (h2 : room ≤ 20000) :
    Calls Try.prog 58 #[.int .i64 room] w fun e w' => e = .returned (.tuple #[.pointer (some ⟨w.heap.size, 0, none⟩), .int .i64 0]) ∧ QRep B w' w.heap.size room 0 [] ∧ Below w.heap.size w w' := by
  go_enter Try.func58, Try.ntmps58
  go_wp2
  go_ret2
  exact ⟨rfl, ⟨hB, by simp; omega, _, Row.made _ _ _, OwnX.nil, fun t h => by cases h⟩, bl_alloc (Below.refl _ _) _⟩
set_option maxHeartbeats 400000 in
theorem qnew_arg (room : Int) (w : World) (h : room < 1 ∨ 20000 < room) :
    Calls Try.prog 58 #[.int .i64 room] w fun e w' => e = .returned (.tuple #[.pointer none, .int .i64 1]) ∧ w = w' := by
  rcases h with h | h
  · go_enter Try.func58, Try.ntmps58
    go_wp2
    go_ret2
    exact ⟨rfl, rfl⟩
  · have h' : ¬ room < 1 := by omega
    go_enter Try.func58, Try.ntmps58
    go_wp2
    go_ret2
    exact ⟨rfl, rfl⟩

/-- how many bytes wait -/
def bytesF (ts : List Txt) : Nat := ts.foldl (fun n t => n + t.bs.length) 0
theorem bytesF_acc (n : Nat) (ts : List Txt) : ts.foldl (fun n t => n + t.bs.length) n = n + bytesF ts := by
  unfold bytesF
  induction ts generalizing n with
  | nil => simp
  | cons t r ih => rw [List.foldl_cons, List.foldl_cons, ih, ih (0 + _)]; omega
theorem bytesF_cons (t : Txt) (r : List Txt) : bytesF (t :: r) = t.bs.length + bytesF r := by
  have := bytesF_acc (0 + t.bs.length) r
  unfold bytesF at *
  rw [List.foldl_cons, this]
  omega
theorem bytesF_append (a b : List Txt) : bytesF (a ++ b) = bytesF a + bytesF b := by
  unfold bytesF
  rw [List.foldl_append]
  exact bytesF_acc _ b
theorem bytesF_snoc (ts : List Txt) (t : Txt) : bytesF (ts ++ [t]) = bytesF ts + t.bs.length := by rw [bytesF_append]; simp [bytesF]
theorem bytesF_take (ts : List Txt) (k : Nat) : bytesF (ts.take k) ≤ bytesF ts := by
  have h := bytesF_append (ts.take k) (ts.drop k)
  rw [List.take_append_drop] at h
  omega
theorem q_take_snoc {α : Type} {L : List α} {k : Nat} {y : α} (h : L[k]? = some y) : L.take (k + 1) = L.take k ++ [y] := by
  rw [List.take_add_one, h]
  rfl

set_option maxRecDepth 100000 in
set_option maxHeartbeats 1600000 in
theorem qbytes_any {B p last : Nat} {room : Int} {ts : List Txt} {w : World} (h : QRep B w p room last ts) (hr : 0 < room) (hb : bytesF ts ≤ 1000000000) :
    Calls Try.prog 71 #[.pointer (some ⟨p, 0, none⟩)] w fun e w' => e = .returned (.int .i64 (bytesF ts : Nat)) ∧ Below w.heap.size w w' := by
  obtain ⟨hB, hB2, sv, hrow, hown, hl⟩ := h
  have c2 : w.cell? ⟨p, 2, none⟩ = some sv := hrow.read rfl
  have HROW := Lib.hid hrow
  have HOWN := Lib.hid hown
  have HL := Lib.hid hl
  have HT := Lib.hid (bytesF_take ts)
  obtain ⟨A, cap, rfl, hcap, hmx⟩ := hown.shape
  unfold maxLen at hmx
  clear hrow hown hl
  go_enter Try.func71, Try.ntmps71
  go_wp2_with (go_at_call 175; refine (none_not HROW.out hr).mono ?_; rintro e _ ⟨rfl, rfl⟩)
  go_loopw [3, 13] (fun n i wr => ∃ k : Nat, k ≤ ts.length ∧ i = .int .i64 k ∧ n = .int .i64 (bytesF (ts.take k) : Nat) ∧ Below w.heap.size w wr) (fun _ i _ => ts.length - (intOf i).toNat)
  case atStart => exact ⟨0, by omega, rfl, rfl, Below.refl _ _⟩
  case round =>
    obtain ⟨k, hk, rfl, rfl, hbr⟩ := hrel
    have HBR := Lib.hid hbr
    clear hbr
    by_cases hlt : k < ts.length
    · obtain ⟨t, ht⟩ : ∃ t, ts[k]? = some t := ⟨_, List.getElem?_eq_getElem hlt⟩
      obtain ⟨g, cap', hv, hc1, hc2⟩ := HOWN.out.form (by omega)
      injection hv with hA _ hcc
      subst hA
      subst hcc
      have hcell := HOWN.out.cells (g := g) rfl
      obtain ⟨a0, a1, a2⟩ := txc_at ht
      have d0 := kept_box HBR.out (hcell _ _ a0)
      have d1 := kept_box HBR.out (hcell _ _ a1)
      have d2 := kept_box HBR.out (hcell _ _ a2)
      have hsum : bytesF (ts.take (k + 1)) = bytesF (ts.take k) + t.bs.length := by rw [q_take_snoc ht, bytesF_snoc]
      have hle := HT.out (k + 1)
      have HS := Lib.hid hsum
      rw [hsum] at hle
      obtain ⟨l1, l2, l3, _⟩ := HL.out t (List.mem_of_getElem? ht)
      clear hcell a0 a1 a2 hsum ht hc1 hc2
      unfold Txt.waits at d1
      have hi0 : (0 : Int) ≤ (k : Int) := by omega
      have hi1 : (k : Int) < (ts.length : Int) := by omega
      go_wp2
      go_roundw
      case rel => exact ⟨k + 1, by omega, by go_num, by rw [HS.out]; go_num, bl_alloc HBR.out _⟩
      case measure => simp [intOf]; omega
    · obtain rfl : k = ts.length := by omega
      have HE := Lib.hid (show bytesF (ts.take ts.length) = bytesF ts by rw [List.take_length])
      go_wp2
      go_ret
      exact ⟨ret_int (by rw [HE.out]), HBR.out⟩
end Go.Proofs.Ytfgjlhklioijmaa
namespace Go.Proofs.Ytfgjlhklioijmaa
open Go.RowKit

theorem step_run {P : Program} {ops : Array Oper} {o : Oper} {a : Act} {w : World} {K : Act → World → Prop} {Q : Exit → Act → World → Prop} {E : Prop} (hgd : o.guard = none) (s x : Operand) (t : TypeId)
    (ho : o.op = .call { callee := .builtin .append, args := #[s, x], argTypes := #[t, t] }) (v u : Value) (hs : a.eval s = v) (hx : a.eval x = u) {v' : Value} {w' : World}
    (hr : (Builtin.append_ #[t, t] o.type #[v, u]).run P w = .ok v' w') (h : K (a.put o.dst v') w') :
    if Region.wanted o (yielded ops a.tmps) = true then Oper.wp P o a w K Q else E := by
  have hw : Region.wanted o (yielded ops a.tmps) = true := by simp [Region.wanted, hgd]
  rw [if_pos hw]
  unfold Oper.wp execOp
  simp only [ho, resolve, invoke, builtin, Sem.run_bind, Sem.run_pure, Result.andThen_ok, List.map_toArray, List.map_cons, List.map_nil, hs, hx, hr]
  exact h
end Go.Proofs.Ytfgjlhklioijmaa
namespace Go.Proofs.Ytfgjlhklioijmaa
open Go.RowKit

/-- only rows of the types X, and new memory, have changed -/
structure KR (X : TypeId → Prop) (B : Nat) (w v : World) : Prop where
  base : B ≤ w.heap.size
  below : Below B w v
  size : w.heap.size ≤ v.heap.size
  rows : ∀ g t cs, Row w g t cs → ¬ X t → Row v g t cs
section
variable {w v u : World} {X Y : TypeId → Prop} {B : Nat}
theorem KR.refl (X : TypeId → Prop) (hB : B ≤ w.heap.size) : KR X B w w := ⟨hB, Below.refl _ _, Nat.le_refl _, fun _ _ _ h _ => h⟩
theorem KR.trans (h : KR X B w v) (h2 : KR X B v u) : KR X B w u := ⟨h.base, h.below.trans h2.below, Nat.le_trans h.size h2.size, fun g t cs hr hx => h2.rows g t cs (h.rows g t cs hr hx) hx⟩
theorem KR.weaker (h : KR X B w v) (hx : ∀ t, X t → Y t) : KR Y B w v := ⟨h.base, h.below, h.size, fun g t cs hr hy => h.rows g t cs hr fun hh => hy (hx t hh)⟩
theorem KR.of_below (hB : B ≤ w.heap.size) (h : Below w.heap.size w v) : KR X B w v := ⟨hB, h.mono hB, h.size, fun _ _ _ hr _ => hr.later h⟩
theorem KR.alloc (h : KR X B w v) (o : Obj) : KR X B w (v.alloc o) :=
  ⟨h.base, h.below.alloc (Nat.le_trans h.base h.size) o, Nat.le_trans h.size (bl_alloc (Below.refl _ _) o).size, fun g t cs hr hx => (h.rows g t cs hr hx).more o⟩
theorem KR.own {m E n : Nat} {x : Value} {xs : List Value} (h : KR X B w v) (ho : w.ownsRow m E 1 x n xs) (hE : ¬ X E) : v.ownsRow m E 1 x n xs := by
  refine ⟨ho.1, ?_⟩
  rcases ho.2 with h0 | ⟨g, cap, cur, rfl, hb, hh, h1⟩
  · exact .inl h0
  · exact .inr ⟨g, cap, cur, rfl, hb, h.rows g E cur hh hE, h1⟩
theorem KR.set {g i : Nat} {t : TypeId} {cs : Array Value} (hr : Row w g t cs) (hx : X t) (hg : B ≤ g) (hB : B ≤ w.heap.size) (x : Value) : KR X B w (w.setCell ⟨g, i, none⟩ x) := by
  have ho : Only (fun k => k = g) w (w.setCell ⟨g, i, none⟩ x) := (Only.refl (fun k => k = g) w).set (p := ⟨g, i, none⟩) (.inl rfl) x
  refine ⟨hB, ho.below hB (fun k hk e => by omega), ho.size, fun g' t' cs' hr' hn => hr'.only ho (fun e => ?_)⟩
  subst e
  unfold Row at hr hr'
  rw [hr] at hr'
  have e := Option.some.inj hr'
  cases e
  exact hn hx
theorem row_made_at {t : TypeId} {cs : Array Value} {g : Nat} (hg : w.heap.size = g) : Row (w.alloc (.cells cs t)) g t cs := by subst hg; exact Row.made _ _ _
theorem step_own {ops : Array Oper} {o : Oper} {a : Act} {K : Act → World → Prop} {Q : Exit → Act → World → Prop} {F : Prop} {n T E by' g : Nat} {z x u : Value} {xs : List Value} (hgd : o.guard = none) (s y : Operand)
    (ho : o.op = .call { callee := .builtin .append, args := #[s, y], argTypes := #[T, T] }) (hty : o.type = T) (hT : Try.prog.underlying T = some (.slice E)) (hI : (Try.prog.info? E).map (fun i => (i.zero, i.size, i.bytes)) = some (some z, 1, by')) (hz : z.cells.size = 1) (hby : by' ≤ 24) (hu : u.oneCell' = true)
    (hs : a.eval s = x) (hy : a.eval y = .slice (some ⟨g, 0, none⟩) 1 1) (hown : w.ownsRow B E 1 x n xs) (hrow : Row w g E #[u]) (hB : B ≤ w.heap.size) (hn : n ≤ 100000)
    (hK : ∀ A' c' w', w'.ownsRow B E 1 (.slice A' (n + 1) c') (n + 1) (xs ++ [u]) → KR (fun t => t = E) B w w' → K (a.put o.dst (.slice A' (n + 1) c')) w') :
    if Region.wanted o (yielded ops a.tmps) = true then Oper.wp Try.prog o a w K Q else F := by
  obtain ⟨i0, hi, hi0, hi1, hi2⟩ := info_parts hI
  obtain ⟨v', w2, hrun, hown2, hgr, _, hat⟩ := run_append_own_at (P := Try.prog) (w := w) B T T E i0 z 1 by' hT hi hi0 hi1 hi2 hz (by omega) x n xs hown ⟨g, 0, none⟩ 1 1 [u] rfl
    (fun j u' hu' => by
      match j, hu' with
      | 0, hu' =>
        simp only [List.getElem?_cons_zero, Option.some.injEq] at hu'
        subst hu'
        rw [add_zero_o]
        exact hrow.read rfl
      | j + 1, hu' => simp at hu') (by intro y hy; simp at hy; subst hy; exact hu) (by unfold maxLen; omega) (by have := Nat.mul_le_mul (show n + 1 ≤ 100001 by omega) hby; omega) hB
  have hon : Only (fun k => x.ownBlock = some k) w w2 := (Only.refl _ _).grown hgr (fun k hk => .inl hk)
  obtain ⟨A', c', rfl⟩ : ∃ A' c', v' = .slice A' (n + 1) c' := by
    rcases hown2.2 with ⟨_, e⟩ | ⟨g, cap, cur, e, _⟩
    · omega
    · exact ⟨some ⟨g, 0, none⟩, cap, e⟩
  refine step_run hgd s y T ho x (.slice (some ⟨g, 0, none⟩) 1 1) hs hy (by rw [hty]; exact hrun) (hK A' c' w2 hown2 ⟨hB, hon.below hB (fun k hk hk2 => by have := (own_block hown k hk2).1; omega), hon.size, fun g' t cs hr hne => hr.only hon (fun hk => ?_)⟩)
  exact own_apart hown hr (fun e => hne e.symm) hk
theorem step_copy {ops : Array Oper} {o : Oper} {a : Act} {K : Act → World → Prop} {Q : Exit → Act → World → Prop} {F : Prop} {A : Option Addr} {c n : Nat} {l : List Nat} (hgd : o.guard = none) (s y : Operand)
    (ho : o.op = .call { callee := .builtin .append, args := #[s, y], argTypes := #[30, 30] }) (hty : o.type = 30) (hs : a.eval s = .slice none 0 0) (hy : a.eval y = .slice A n c) (hl : l.length = n) (h0 : 0 < n) (hn : n ≤ 1000000) (hsrc : QSrcB w A (qbts l))
    (hK : ∀ g cap w', n ≤ cap → cap ≤ 9223372036854775807 → w.heap.size ≤ g → (∃ cs : Array Value, Row w' g 5 cs ∧ ∀ (j b : Nat), l[j]? = some b → cs[j]? = some (Value.int .u8 (b : Nat))) → Below w.heap.size w w' → K (a.put o.dst (.slice (some ⟨g, 0, none⟩) n cap)) w') :
    if Region.wanted o (yielded ops a.tmps) = true then Oper.wp Try.prog o a w K Q else F := by
  subst hl
  obtain ⟨cap, w1, hr, hc1, hc2, hf⟩ := copy_fresh (c := c) hsrc h0 hn
  exact step_run hgd s y 30 ho _ _ hs hy (by rw [hty]; exact hr) (hK _ cap w1 hc1 (by unfold maxLen at hc2; omega) hf.1 hf.2.1 hf.2.2)
end
end Go.Proofs.Ytfgjlhklioijmaa
namespace Go.Proofs.Ytfgjlhklioijmaa
open Go.RowKit

/-- both, alike -/
structure BoP (W w : World) (x y : Nat) (P B : Int) (l : List Nat) (t : Bool) : Prop where
  ps : PS W w x P B (l.length : Nat) (l.sum : Nat) t
  rp : RP w y W.heap.size P B l t
  hy : W.heap.size ≤ y
section
variable {W w v : World} {x y b : Nat} {P B : Int} {l : List Nat} {t : Bool}
theorem RP.keep {cs : Array Value} (h : RP w y b P B l t) (hr : Row w x 202 cs) (ho : Only (PO x) w v) : RP v y b P B l t := by
  obtain ⟨A, c, h1, h2⟩ := h.row
  refine ⟨⟨A, c, h1.only ho (fun e => ?_), own_only h2 ho (fun k hk e => ?_)⟩, h.small, h.few⟩
  · exact Row.apart h1 hr (by decide) e
  · have e' : k = x := e
    subst e'
    exact own_apart h2 hr (by decide) hk
theorem PS.keep {n m : Int} {cs : Array Value} (h : PS W w x P B n m t) (hr : Row w y 192 cs) (ho : Only (PO y) w v) (hy : W.heap.size ≤ y) : PS W v x P B n m t :=
  ⟨h.row.only ho (fun e => Row.apart h.row hr (by decide) e), h.old, h.bl.trans (ho.below h.bl.size fun j hj e => by unfold PO at e; omega), h.hP⟩
theorem BoP.later (h : BoP W w x y P B l t) (hb : Below w.heap.size w v) : BoP W v x y P B l t := ⟨h.ps.later hb, h.rp.later hb, h.hy⟩
theorem BoP.want (h : BoP W w x y P B l t) : Calls Try.prog 124 #[.pointer (some ⟨x, 0, none⟩)] w fun e w' => e = .returned (.int .i64 0) ∧ PS W w' x P B (l.length : Nat) (l.sum : Nat) true ∧ RP w' y W.heap.size P B l t ∧ Only (PO x) w w' :=
  h.ps.want.mono fun _ _ ⟨h1, h2, h3⟩ => ⟨h1, h2, h.rp.keep h.ps.row h3, h3⟩
theorem BoP.reset (h : BoP W w x y P B l t) : Calls Try.prog 127 #[.pointer (some ⟨x, 0, none⟩)] w fun e w' => e = .returned (.tuple #[]) ∧ PS W w' x P B 0 0 false ∧ RP w' y W.heap.size P B l t ∧ Only (PO x) w w' :=
  h.ps.reset.mono fun _ _ ⟨h1, h2, h3⟩ => ⟨h1, h2, h.rp.keep h.ps.row h3, h3⟩
theorem BoP.sent {k : Int} (h : BoP W w x y P B l t) (h0 : 0 ≤ k) (h4 : k ≤ 4000) : Calls Try.prog 123 #[.pointer (some ⟨x, 0, none⟩), .int .i64 k] w fun e w' => e = .returned (.int .i64 0) ∧ PS W w' x P B ((l.length : Nat) + 1) ((l.sum : Nat) + k) t ∧ RP w' y W.heap.size P B l t ∧ Only (PO x) w w' := by
  have h1 := sum_small h.rp.small
  have h2 := h.rp.few
  exact (h.ps.sent h0 h4 (by omega) (by omega)).mono fun _ _ ⟨h1, h2, h3⟩ => ⟨h1, h2, h.rp.keep h.ps.row h3, h3⟩
/-- both are asked -/
theorem BoP.ask {a d : Bool} (h : BoP W w x y P B l t) : ∃ q : Bool, Calls Try.prog 125 #[.pointer (some ⟨x, 0, none⟩), .bool a, .bool d] w fun e w' => e = .returned (.bool q) ∧ Only (PO x) w w' ∧ (∃ cs, Row w' y 192 cs) ∧ Calls Try.prog 126 #[.pointer (some ⟨y, 0, none⟩), .bool a, .bool d] w' fun e w'' => e = .returned (.bool q) ∧ Only (PO y) w' w'' ∧ ∃ l' t', BoP W w'' x y P B l' t' ∧ l'.length ≤ l.length := by
  cases hq : askP P B (l.length : Nat) (l.sum : Nat) t a d
  · refine ⟨false, (h.ps.not hq).mono fun _ _ ⟨h1, h2, h3⟩ => ⟨h1, h3, ?_, ?_⟩⟩
    · obtain ⟨A, c, hr, _⟩ := (h.rp.keep h.ps.row h3).row
      exact ⟨_, hr⟩
    have h4 := h.rp.keep h.ps.row h3
    refine (rpask_not h4 hq).mono fun _ _ ⟨e1, e2⟩ => ⟨e1, .of_below e2, l, t, ⟨h2.later e2, h4.later e2, h.hy⟩, Nat.le_refl _⟩
  · refine ⟨true, (h.ps.yes hq).mono fun _ _ ⟨h1, h2, h3⟩ => ⟨h1, h3, ?_, ?_⟩⟩
    · obtain ⟨A, c, hr, _⟩ := (h.rp.keep h.ps.row h3).row
      exact ⟨_, hr⟩
    have h4 := h.rp.keep h.ps.row h3
    obtain ⟨A, c, hr, _⟩ := h4.row
    refine (rpask_yes h4 hq).mono fun _ _ ⟨e1, e2, e3⟩ => ⟨e1, e3, [], false, ⟨h2.keep hr e3 h.hy, e2, h.hy⟩, by simp⟩
end
end Go.Proofs.Ytfgjlhklioijmaa
namespace Go.Proofs.Ytfgjlhklioijmaa
open Go.ChangeShapes Go.WideShapes Go.ChangeAt Go.RowKit

theorem lawOwn : ownKnob Try.prog.godebug = none := by kernel_rfl
theorem lawLaid : laidOutB Try.prog = true := by kernel_rfl

section
variable {H : Type} {enc : TypeId × Value → H} {P : Program}
/-- what was read in the old world is read in the new one -/
theorem args_stay (hl : laidOutB P = true) {W W' : World} (hb : Below W.heap.size W W') : ∀ (ts : List TypeId) (vs : List Value) (ds : List (DataW H)) (ps : List MemPlace),
    (∀ t ∈ ts, P.readableRec t = true ∧ t < P.types.size) → DataW.TrodAll enc P W 0 (fun _ => true) true ts vs ds ps → (∀ x ∈ ps, x.block < W.heap.size) →
    DataW.TrodAll enc P W' 0 (fun b => decide (b < W.heap.size)) true ts vs ds ps := by
  intro ts
  induction ts with
  | nil =>
    intro vs ds ps _ h _
    obtain ⟨rfl, rfl, rfl⟩ := trodAll_nil h
    exact trodAll_mk0
  | cons t ts ih =>
    intro vs ds ps hr h hlt
    obtain ⟨v, vs', d, ds', p, q, rfl, rfl, rfl, h1, h2⟩ := trodAll_cons h
    have ht := hr t (List.mem_cons_self ..)
    exact trodAll_cons_mk (Below.trod hl ht.1 ht.2 h1 hb fun x hx => hlt x (List.mem_append_left _ hx))
      (ih vs' ds' q (fun u hu => hr u (List.mem_cons_of_mem _ hu)) h2 fun x hx => hlt x (List.mem_append_right _ hx))

theorem law_post {f : Func} {s : ChangeSpec} {W W' : World} {args : Array Value} {ds gs : List (DataW H)} {before : List MemPlace} {B : TypeId}
    (hl : laidOutB P = true) (hr : f.params.toList.all (fun t => P.readableRec t && decide (t < P.types.size)) = true) (hv : s.vars = [])
    (hW : DataW.Whole enc P f.params.toList s.vars false W args.toList ds gs before)
    (hs : s.fn H (ds ++ gs) = { results := [.lit (.bool true)], args := ds }) (ht : f.resultTypes = #[B]) (hB : P.underlying B = some .bool)
    (hb : Below W.heap.size W W') : s.post enc P f false true false false W args (.bool true) W' := by
  have hW' := hW
  obtain ⟨p, q, hA, hV, rfl, _, _⟩ := hW
  rw [hv] at hV
  obtain ⟨rfl, rfl⟩ := trodVars_none hV
  refine ⟨ds, [], p ++ [], [], p, [], hW', ?_, ?_, ?_, hb.frame _, fun h => by cases h⟩
  · rw [hs, ht]
    exact trodAll_mk1 (shut_bool hB true)
  · rw [hs]
    exact args_stay hl hb _ _ _ _ (fun t h => by have := List.all_eq_true.1 hr t h; simpa using this) hA fun x hx => hW'.lt x (List.mem_append_left _ hx)
  · rw [hs, hv]
    exact rfl
end
end Go.Proofs.Ytfgjlhklioijmaa
namespace Go.Proofs.Ytfgjlhklioijmaa
open Go.ChangeShapes Go.WideShapes Go.ChangeAt Go.RowKit Go.Deep Go.Joins


theorem Try.cellsOp21 : Try.prog.cellsOf 194 = 4 := by kernel_rfl
theorem Try.cells3o : Try.prog.cellsOf 3 = 1 := by kernel_rfl
theorem Try.cells4o : Try.prog.cellsOf 4 = 1 := by kernel_rfl

/-- where calls lie -/
def PSrc21 (w : World) (A : Option Addr) (l : List (Int × Int × Bool × Bool)) : Prop :=
  0 < l.length → ∃ b off, A = some ⟨b, off, none⟩ ∧ ∀ k o, l[k]? = some o → w.cell? ⟨b, off + k * 4, none⟩ = some (.int .i64 o.1) ∧ w.cell? ⟨b, off + k * 4 + 1, none⟩ = some (.int .i64 o.2.1) ∧ w.cell? ⟨b, off + k * 4 + 2, none⟩ = some (.bool o.2.2.1) ∧ w.cell? ⟨b, off + k * 4 + 3, none⟩ = some (.bool o.2.2.2)

set_option maxRecDepth 100000 in
theorem op_cells {H : Type} {enc : TypeId × Value → H} {W : World} {base fuel : Nat} {sp : Nat → Bool} {held : Bool} {cs : List Value} {x : DataW H × List MemPlace}
    (h : DataW.trod enc Try.prog W base sp held fuel 194 cs = some x) : ∃ (a b : Int) (c d : Bool), cs = [.int .i64 a, .int .i64 b, .bool c, .bool d] := by
  obtain ⟨xs, n, _, _, hl, hxs, hf⟩ := DataW.trod_struct Try.underlying194 h
  have h0 := hf 0 _ rfl
  have h1 := hf 1 _ rfl
  have h2 := hf 2 _ rfl
  have h3 := hf 3 _ rfl
  rw [Try.cellsOp21] at hl
  match cs, hl with
  | [c0, c1, c2, c3], _ =>
    have hxs' : xs.length = 4 := by simpa using hxs
    match xs, hxs' with
    | [y0, y1, y2, y3], _ =>
      have h0' : DataW.trod enc Try.prog W base sp held n 3 (([c0, c1, c2, c3].drop 0).take (Try.prog.cellsOf 3)) = some y0 := h0
      have h1' : DataW.trod enc Try.prog W base sp held n 3 (([c0, c1, c2, c3].drop 1).take (Try.prog.cellsOf 3)) = some y1 := h1
      have h2' : DataW.trod enc Try.prog W base sp held n 4 (([c0, c1, c2, c3].drop 2).take (Try.prog.cellsOf 4)) = some y2 := h2
      have h3' : DataW.trod enc Try.prog W base sp held n 4 (([c0, c1, c2, c3].drop 3).take (Try.prog.cellsOf 4)) = some y3 := h3
      rw [Try.cells3o] at h0' h1'
      rw [Try.cells4o] at h2' h3'
      obtain ⟨a, ea, _, _⟩ := DataW.trod_int Try.underlying3 h0'
      obtain ⟨b, eb, _, _⟩ := DataW.trod_int Try.underlying3 h1'
      obtain ⟨c, ec, _⟩ := DataW.trod_bool Try.underlying4 h2'
      obtain ⟨d, ed, _⟩ := DataW.trod_bool Try.underlying4 h3'
      simp at ea eb ec ed
      exact ⟨a, b, c, d, by rw [ea, eb, ec, ed]⟩

set_option maxRecDepth 100000 in
theorem ops_arg {H : Type} {enc : TypeId × Value → H} {W : World} {base : Nat} {v : Value} {d : DataW H} {p : List MemPlace} (hok : Value.okWide Try.prog W .any base 186 v)
    (h : DataW.Trod enc Try.prog W 0 (fun _ => true) true 186 v d p) : ∃ (A : Option Addr) (cap : Nat) (l : List (Int × Int × Bool × Bool)), v = .slice A l.length cap ∧ l.length ≤ cap ∧ cap ≤ 9223372036854775807 ∧ PSrc21 W A l := by
  obtain ⟨a0, len, cap, rfl⟩ := okWide_slice Try.underlying186 hok
  obtain ⟨fuel, hf⟩ := h
  rcases open_slice Try.underlying186 hf with ⟨hcs, _⟩ | ⟨a, len', cap', m, n, D, Pl, hcs, _, hl, hm, hmm, _, hcell⟩
  · have e : Value.slice a0 len cap = .slice none 0 0 := by simpa [Value.cells] using hcs
    rw [e]
    exact ⟨none, 0, [], rfl, Nat.le_refl _, by omega, fun h0 => absurd h0 (by simp)⟩
  · have e : Value.slice a0 len cap = .slice (some a) len' cap' := by simpa [Value.cells] using hcs
    rw [e]
    have hm' : m = cap' := by simpa using hmm
    have each : ∀ i, i < len' → ∃ (t u : Int) (w z : Bool), W.cell? (a.add (i * 4)) = some (.int .i64 t) ∧ W.cell? (a.add (i * 4 + 1)) = some (.int .i64 u) ∧ W.cell? (a.add (i * 4 + 2)) = some (.bool w) ∧ W.cell? (a.add (i * 4 + 3)) = some (.bool z) := by
      intro i hi
      obtain ⟨cs', hc, ht⟩ := hcell i (by omega)
      rw [Try.cellsOp21] at hc
      obtain ⟨t, u, w, z, rfl⟩ := op_cells ht
      obtain ⟨_, _, hat⟩ := World.cells?_some hc
      have h0 := hat 0 (by omega)
      have h1 := hat 1 (by omega)
      have h2 := hat 2 (by omega)
      have h3 := hat 3 (by omega)
      rw [add_add] at h0 h1 h2 h3
      exact ⟨t, u, w, z, h0, h1, h2, h3⟩
    have pick : ∃ f : Nat → Int × Int × Bool × Bool, ∀ i, i < len' → W.cell? (a.add (i * 4)) = some (.int .i64 (f i).1) ∧ W.cell? (a.add (i * 4 + 1)) = some (.int .i64 (f i).2.1) ∧ W.cell? (a.add (i * 4 + 2)) = some (.bool (f i).2.2.1) ∧ W.cell? (a.add (i * 4 + 3)) = some (.bool (f i).2.2.2) := by
      refine ⟨fun i => if hi : i < len' then ((each i hi).choose, (each i hi).choose_spec.choose, (each i hi).choose_spec.choose_spec.choose, (each i hi).choose_spec.choose_spec.choose_spec.choose) else (0, 0, false, false), fun i hi => ?_⟩
      simp only [dif_pos hi]
      exact (each i hi).choose_spec.choose_spec.choose_spec.choose_spec
    obtain ⟨f, hf'⟩ := pick
    have hlen : ((List.range len').map f).length = len' := by simp
    refine ⟨some a, cap', (List.range len').map f, by rw [hlen], by omega, by unfold maxLen at hm; exact hm, fun h0 => ?_⟩
    rw [hlen] at h0
    obtain ⟨b, off, spot⟩ := a
    have hspot : spot = none := by
      have hc := (hf' 0 (by omega)).1
      simpa [Addr.add] using World.cell?_spot hc
    subst hspot
    refine ⟨b, off, rfl, fun k o ho => ?_⟩
    have hk : k < len' := by
      have h1 := (List.getElem?_eq_some_iff.1 ho).1
      rw [hlen] at h1
      exact h1
    have ho' : o = f k := by
      rw [List.getElem?_map, List.getElem?_range hk] at ho
      simp at ho
      exact ho.symm
    subst ho'
    have h3 := hf' k hk
    rw [add_plain, add_plain, add_plain, add_plain] at h3
    simpa [Nat.add_assoc] using h3
end Go.Proofs.Ytfgjlhklioijmaa
