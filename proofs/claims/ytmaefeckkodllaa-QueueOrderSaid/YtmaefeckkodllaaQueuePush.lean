/-
  A text pushed into a queue.
-/
import Derived.Test.YtmaefeckkodllaaQueueDrop
import Derived.Deep.RegionHeld3
namespace Go.Proofs.Ytmaefeckkodllaa
open Go.RowKit

theorem new_three (W : World) (u v x : Value) (t : TypeId) : ∀ j y, [u, v, x][j]? = some y → (W.alloc (.cells #[u, v, x] t)).cell? ((⟨W.heap.size, 0, none⟩ : Addr).add j) = some y :=
  World.news_of_block (cs := #[u, v, x]) (heap_alloc_new W _)

theorem push_tail {B p last : Nat} {room : Int} {ts : List Txt} {l : List Nat} {wY w2 : World} {A : Option Addr} {cap g2 : Nat} (hp : B ≤ p) (hB : B ≤ wY.heap.size) (hrow : Row wY p 80 #[.int .i64 room, .int .u64 ((last : Int) + 1), .slice A ts.length cap])
    (hown : OwnX wY B 98 3 (.slice A ts.length cap) ts.length (txc ts)) (hl : ∀ t ∈ ts, t.lies B wY) (hn : ts.length ≤ 1000) (hf : Fresh wY.drew l g2 w2) (hll : l.length ≤ 1000) :
    ∃ A' n' cap' w3, (Builtin.append_ #[78, 78] 78 #[.slice A ts.length cap, .slice (some ⟨w2.heap.size, 0, none⟩) 1 1]).run Try.prog (w2.alloc (.cells #[.int .u64 ((last : Int) + 1), .slice (some ⟨g2, 0, none⟩) l.length l.length, .bool false] 98)) = .ok (.slice A' n' cap') w3 ∧
      Row w3 p 80 #[.int .i64 room, .int .u64 ((last : Int) + 1), .slice A ts.length cap] ∧ Row w2 p 80 #[.int .i64 room, .int .u64 ((last : Int) + 1), .slice A ts.length cap] ∧
      (∃ t, t.id = last + 1 ∧ t.bs = l ∧ t.bg = false ∧ QRep B (w3.setCell ⟨p, 2, none⟩ (.slice A' n' cap')) p room (last + 1) (ts ++ [t])) ∧ QOnly B wY (w3.setCell ⟨p, 2, none⟩ (.slice A' n' cap')) := by
  obtain ⟨i0, hi, hi0, hi1, hi2⟩ := info98_parts
  obtain ⟨hg2, ⟨cs, hcs, hcb⟩, hb2⟩ := hf
  have hb2' : Below wY.heap.size wY w2 := bl_step (bl_drew (Below.refl _ _)) hb2
  have hrow2 := hrow.later hb2'
  have hsz2 := hb2'.size
  let o : Obj := .cells #[.int .u64 ((last : Int) + 1), .slice (some ⟨g2, 0, none⟩) l.length l.length, .bool false] 98
  have hown3 : OwnX (w2.alloc o) B 98 3 (.slice A ts.length cap) ts.length (txc ts) := (hown.only (S := fun _ => False) (.of_below hb2') (fun _ _ h => h)).alloc o
  obtain ⟨v', w3, hr, h2, h3, h4⟩ := run_append_x (P := Try.prog) (w := w2.alloc o) (ty := 78) Try.underlying78 hi hi0 hi1 hi2 rfl hown3 ⟨w2.heap.size, 0, none⟩ 1 1 [.int .u64 ((last : Int) + 1), .slice (some ⟨g2, 0, none⟩) l.length l.length, .bool false] rfl
    (new_three w2 _ _ _ 98) (by intro u hu; simp at hu; rcases hu with rfl | rfl | rfl <;> rfl) (by omega) (by omega) (by simp; omega)
  obtain ⟨A', cap', rfl, _, _⟩ := h2.shape
  have hrow2o := hrow2.more o
  have happ := hown3.apart hrow2o (by decide)
  have hrow3 : Row w3 p 80 #[.int .i64 room, .int .u64 ((last : Int) + 1), .slice A ts.length cap] := (h3.block p hrow2o.inside (fun e => happ e.symm)).trans hrow2o
  have hq1 : QOnly B wY (w2.alloc o) := QOnly.of_below (bl_alloc hb2' o)
  have hq2 : QOnly B (w2.alloc o) w3 := (Only.refl _ _).grown h3 (fun j hj => .inl (QT.list hown3 j hj))
  have hq3 : QOnly B w3 (w3.setCell ⟨p, 2, none⟩ (.slice A' (ts.length + 1) cap')) := (Only.refl _ _).set (p := ⟨p, 2, none⟩) (.inl (QT.self hp hrow3)) _
  refine ⟨_, _, _, w3, hr, hrow3, hrow2, ⟨⟨last + 1, g2, 0, l.length, l, false⟩, rfl, rfl, rfl, ⟨hp, ?_, _, hrow3.written 2 _, ?_, ?_⟩⟩, (hq1.trans hq2).trans hq3⟩
  · have := hq1.size; have := hq2.size; have := hq3.size; omega
  · rw [List.length_append, List.length_singleton, txc_append]
    exact h2.only (S := fun j => j = p) ((Only.refl (fun j => j = p) _).set (p := ⟨p, 2, none⟩) (.inl rfl) _) (fun j hj e => by subst e; exact h2.apart hrow3 (by decide) hj)
  · intro t ht
    rw [List.mem_append, List.mem_singleton] at ht
    rcases ht with ht | rfl
    · exact (((hl t ht).q hq1).q hq2).q hq3
    · exact ⟨by have : wY.heap.size ≤ g2 := hg2; show B ≤ g2; omega, Nat.le_refl _, by show l.length ≤ _; omega, cs, hq3.row (hq2.row (hcs.more o) (by decide) (by decide)) (by decide) (by decide), fun j b hb => by show cs[0 + j]? = _; rw [Nat.zero_add]; exact hcb j b hb⟩

set_option maxHeartbeats 400000 in
theorem push_nil (x : Value) (w : World) : Calls Try.prog 30 #[.pointer none, x] w fun e w' => e = .returned (.tuple #[.int .u64 0, .int .i64 6]) ∧ w = w' := by
  go_enter Try.func30, Try.ntmps30
  go_wp2_with (go_at_call 58; refine (none_nil _).mono ?_; rintro e _ ⟨rfl, rfl⟩)
  go_ret2
  exact ⟨rfl, rfl⟩

section
variable {B p last : Nat} {room : Int} {ts : List Txt} {w : World}
theorem QRep.row (h : QRep B w p room last ts) : ∃ sv, Row w p 80 #[.int .i64 room, .int .u64 last, sv] := by
  obtain ⟨_, _, sv, hr, _⟩ := h
  exact ⟨sv, hr⟩

set_option maxHeartbeats 400000 in
theorem push_arg (A : Option Addr) (c : Nat) (h : QRep B w p room last ts) (hr : 0 < room) :
    Calls Try.prog 30 #[.pointer (some ⟨p, 0, none⟩), .slice A 0 c] w fun e w' => e = .returned (.tuple #[.int .u64 0, .int .i64 1]) ∧ w = w' := by
  obtain ⟨sv, hrow⟩ := h.row
  have HROW := Lib.hid hrow
  clear hrow h
  go_enter Try.func30, Try.ntmps30
  go_wp2_with (go_at_call 58; refine (none_not HROW.out hr).mono ?_; rintro e _ ⟨rfl, rfl⟩)
  go_ret2
  exact ⟨rfl, rfl⟩
set_option maxHeartbeats 400000 in
theorem push_long (A : Option Addr) (n c : Nat) (h : QRep B w p room last ts) (hr : 0 < room) (hn : 1000 < n) (hn2 : n ≤ 9223372036854775807) :
    Calls Try.prog 30 #[.pointer (some ⟨p, 0, none⟩), .slice A n c] w fun e w' => e = .returned (.tuple #[.int .u64 0, .int .i64 2]) ∧ w = w' := by
  obtain ⟨sv, hrow⟩ := h.row
  have HROW := Lib.hid hrow
  have h0 : ((n : Int) == 0) = false := by simp; omega
  clear hrow h
  go_enter Try.func30, Try.ntmps30
  go_wp2_with (go_at_call 58; refine (none_not HROW.out hr).mono ?_; rintro e _ ⟨rfl, rfl⟩)
  go_ret2
  exact ⟨rfl, rfl⟩

set_option maxRecDepth 100000 in
set_option maxHeartbeats 800000 in
theorem push_full (A : Option Addr) (n c : Nat) (h : QRep B w p room last ts) (hr : 0 < room) (hr2 : room ≤ 20000) (hb : (bytesF ts : Int) ≤ room) (hn0 : 0 < n) (hn : n ≤ 1000) (hts : ts.length ≤ 64) (hf : ts.length = 64 ∨ room < (bytesF ts : Int) + n) :
    Calls Try.prog 30 #[.pointer (some ⟨p, 0, none⟩), .slice A n c] w fun e w' => e = .returned (.tuple #[.int .u64 0, .int .i64 5]) ∧ Below w.heap.size w w' := by
  obtain ⟨_, _, sv, hrow, hown, _⟩ := id h
  obtain ⟨A1, cap, rfl, hcap, hmx⟩ := hown.shape
  unfold maxLen at hmx
  have HROW := Lib.hid hrow
  have HB := Lib.hid (bytes_any (h.later (bl_drew (Below.refl _ _))) hr (by omega))
  have HQ := Lib.hid h
  have c0 := hrow.read (i := 0) rfl
  have c2 := hrow.read (i := 2) rfl
  have h0 : ((n : Int) == 0) = false := by simp; omega
  clear hrow h hown
  by_cases h64 : ts.length = 64
  · have hge : 64 ≤ ts.length := by omega
    have hd : decide ((64 : Int) ≤ (ts.length : Int)) = true := by simp; omega
    clear h64 hf
    go_enter Try.func30, Try.ntmps30
    go_wp2_with (go_at_call 58; refine (none_not HROW.out hr).mono ?_; rintro e _ ⟨rfl, rfl⟩)
    go_quiet (fail)
    go_wp2
    go_ret2
    exact ⟨rfl, below_drewN (Below.refl _ _) _⟩
  · have hlt : ts.length < 64 := by omega
    have hd : decide ((64 : Int) ≤ (ts.length : Int)) = false := by simp; omega
    have hgt : room < (bytesF ts : Int) + n := by omega
    clear h64 hf
    generalize bytesF ts = bf at *
    go_enter Try.func30, Try.ntmps30
    go_wp2_with (go_at_call 58; refine (none_not HROW.out hr).mono ?_; rintro e _ ⟨rfl, rfl⟩)
    have hw0 : (0 : Int) ≤ (bf : Int) + n := by omega
    have hw : IntKind.i64.wrap ((bf : Int) + n) = (bf : Int) + n := IntWalk.i64_in _ (by omega)
    go_region_held3 (fun w' => w'.cell? ⟨p, 0, none⟩ = some (.int .i64 room) ∧ w'.cell? ⟨p, 2, none⟩ = some (.slice A1 ts.length cap)) (first | go_keep | (exact ⟨kept_box (by assumption) (by assumption), kept_box (by assumption) (by assumption)⟩)) (first | (go_at_call 41; refine (HB.out).mono ?_; rintro e w1 ⟨rfl, hb1⟩))
    go_wp2
    go_ret2
    exact ⟨rfl, bl_step (bl_drew (Below.refl _ _)) hb1⟩

/-- what a push does that is not refused -/
def PushDone (B p last : Nat) (room : Int) (ts : List Txt) (l : List Nat) (w : World) (e : Ending) (w' : World) : Prop :=
  e = .returned (.tuple #[.int .u64 ((last : Int) + 1), .int .i64 0]) ∧ (∃ t : Txt, t.id = last + 1 ∧ t.bs = l ∧ t.bg = false ∧ QRep B w' p room (last + 1) (ts ++ [t])) ∧ QOnly B w w'

set_option maxRecDepth 100000 in
set_option maxHeartbeats 3200000 in
theorem push_ok (A : Option Addr) (l : List Nat) (c : Nat) (h : QRep B w p room last ts) (hr : 0 < room) (hr2 : room ≤ 20000) (h0 : 0 < l.length) (hn : l.length ≤ 1000) (hts : ts.length < 64) (hf : (bytesF ts : Int) + l.length ≤ room) (hlast : last ≤ 1000000000)
    (hsrc : ∀ W, QOnly B w W → SrcB W A (bts l)) :
    Calls Try.prog 30 #[.pointer (some ⟨p, 0, none⟩), .slice A l.length c] w (PushDone B p last room ts l w) := by
  obtain ⟨hB, hB2, sv, hrow, hown, hl⟩ := id h
  obtain ⟨A1, cap, rfl, hcap, hmx⟩ := hown.shape
  unfold maxLen at hmx
  have HROW := Lib.hid hrow
  have HBY := Lib.hid (bytes_any (h.later (bl_drew (Below.refl _ _))) hr (by omega))
  have HQ := Lib.hid h
  have HSRC := Lib.hid hsrc
  have c0 := hrow.read (i := 0) rfl
  have c2 := hrow.read (i := 2) rfl
  have hd : decide ((64 : Int) ≤ (ts.length : Int)) = false := by simp; omega
  clear hrow h hown hl hsrc
  obtain ⟨bf, hbf⟩ : ∃ bf, bytesF ts = bf := ⟨_, rfl⟩
  rw [hbf] at hf HBY
  clear hbf
  obtain ⟨n, hn'⟩ : ∃ n, l.length = n := ⟨_, rfl⟩
  rw [hn'] at h0 hn hf
  have HN := Lib.hid hn'
  rw [hn']
  clear hn'
  have hn0 : ((n : Int) == 0) = false := by simp; omega
  have hd1 : decide ((1000 : Int) < (n : Int)) = false := by simp; omega
  go_enter Try.func30, Try.ntmps30
  go_wp2_with (go_at_call 58; refine (none_not HROW.out hr).mono ?_; rintro e _ ⟨rfl, rfl⟩)
  have hw0 : (0 : Int) ≤ (bf : Int) + n := by omega
  have hw : IntKind.i64.wrap ((bf : Int) + n) = (bf : Int) + n := IntWalk.i64_in _ (by omega)
  go_region_held3 (fun w' => w'.cell? ⟨p, 0, none⟩ = some (.int .i64 room) ∧ w'.cell? ⟨p, 2, none⟩ = some (.slice A1 ts.length cap)) (first | go_keep | (exact ⟨kept_box (by assumption) (by assumption), kept_box (by assumption) (by assumption)⟩)) (first | (go_at_call 41; refine (HBY.out).mono ?_; rintro e w1 ⟨rfl, hb1⟩))
  have hbw1 : Below w.heap.size w w1 := bl_step (bl_drew (Below.refl _ _)) hb1
  obtain ⟨_, hB3, sv1, hrow1, hown1, hl1⟩ := HQ.out.later hbw1
  have esv : sv1 = .slice A1 ts.length cap := by
    have := HROW.out.later hbw1
    unfold Row at this hrow1
    rw [hrow1] at this
    injection this with this
    injection this with this _
    injection this with this
    injection this with _ this
    injection this with _ this
    injection this with this _
  subst esv
  have c1 := hrow1.read (i := 1) rfl
  have f1 := hrow1.free 1
  have hrowY := hrow1.written 1 (.int .u64 ((last : Int) + 1))
  have hoY : QOnly B w1 (w1.setCell ⟨p, 1, none⟩ (.int .u64 ((last : Int) + 1))) := (Only.refl _ _).set (p := ⟨p, 1, none⟩) (.inl (QT.self hB hrow1)) _
  have hownY := hown1.only (S := fun j => j = p) ((Only.refl (fun j => j = p) _).set (p := ⟨p, 1, none⟩) (.inl rfl) (.int .u64 ((last : Int) + 1))) (fun j hj e => by subst e; exact hown1.apart hrow1 (by decide) hj)
  have hlY : ∀ t ∈ ts, t.lies B (w1.setCell ⟨p, 1, none⟩ (.int .u64 ((last : Int) + 1))) := fun t ht => (hl1 t ht).q hoY
  have HOY := Lib.hid ((QOnly.of_below (B := B) hbw1).trans hoY)
  have hszY : B ≤ (w1.setCell ⟨p, 1, none⟩ (.int .u64 ((last : Int) + 1))).heap.size := by have := hoY.size; omega
  have HSY := Lib.hid (HSRC.out _ HOY.out)
  have HRY := Lib.hid hrowY
  have HWY := Lib.hid hownY
  have HLY := Lib.hid hlY
  clear hrow1 hrowY hoY hown1 hownY hl1 hlY hb1 hbw1
  have hu : IntKind.u64.wrap ((last : Int) + 1) = (last : Int) + 1 := by rw [IntKind.wrap_u64]; omega
  go_wp2
  generalize w1.setCell ⟨p, 1, none⟩ (.int .u64 ((last : Int) + 1)) = wY at *
  have hRY : Row wY p 80 #[.int .i64 room, .int .u64 ((last : Int) + 1), .slice A1 ts.length cap] := HRY.out
  have y1 : wY.cell? ⟨p, 1, none⟩ = some (.int .u64 ((last : Int) + 1)) := hRY.read rfl
  have y2 : wY.cell? ⟨p, 2, none⟩ = some (.slice A1 ts.length cap) := hRY.read rfl
  have HRY' := Lib.hid hRY
  have HC : Hid (∀ W, W = wY.drew → Calls Try.prog 59 #[.slice A n c] W (CopyDone l W)) := Lib.hid (fun W hW => by
    have := copied_any A c l W (by rw [hW]; exact HSY.out) (by rw [HN.out]; omega) (by rw [HN.out]; omega)
    rw [HN.out] at this
    exact this)
  clear hRY HRY c0 c1 c2 f1
  go_region_law (first
    | (go_simp; go_at_call 59; refine (HC.out _ rfl).mono ?_; rintro e w2 ⟨g2, rfl, hfr⟩; obtain ⟨A', n', cap', w3, hr3, hrow3, hrow2, hq3, ho3⟩ := push_tail hB hszY HRY'.out HWY.out HLY.out (by omega) hfr (by rw [HN.out]; omega); rw [HN.out] at hr3 ⊢; have z1 := hrow2.read (i := 1) rfl; have z2 := hrow2.read (i := 2) rfl; have z3 := (hrow2.more (.cells #[.int .u64 ((last : Int) + 1), .slice (some ⟨g2, 0, none⟩) n n, .bool false] 98)).read (i := 2) rfl; have x2 := hrow3.read (i := 2) rfl; have x3 := hrow3.free 2; have HR3 := Lib.hid hr3; have HQ3 := Lib.hid hq3; have HO3 := Lib.hid ho3; have HRW3 := Lib.hid hrow3; clear hr3 hq3 ho3 hrow2 hrow3 hfr; go_simp)
    | (refine step_run rfl (.tmp 47) (.tmp 55) 78 rfl (.slice A1 ts.length cap) (.slice (some ⟨w2.heap.size, 0, none⟩) 1 1) (by rfl) (by rfl) HR3.out ?_))
  all_goals
    have v1 : (w3.setCell ⟨p, 2, none⟩ (.slice A' n' cap')).cell? ⟨p, 1, none⟩ = some (.int .u64 ((last : Int) + 1)) := (HRW3.out.written 2 (.slice A' n' cap')).read rfl
    go_wp2
    go_ret2
    exact ⟨rfl, HQ3.out, HOY.out.trans HO3.out⟩
end
end Go.Proofs.Ytmaefeckkodllaa
