/- The model's run along a chain: its beginning, what is possible, what an action does. -/
import Derived.RegionTactic
import Derived.BigQuiet
import Derived.Deep.AppendLies
import Derived.Test.YtolpbflalbfhjaaCkr
namespace Go.Proofs.Ytolpbflalbfhjaa
open Go.RowKit
set_option linter.unusedVariables false

/-- The model's run lies in the block B, its slots in a block of their own. -/
structure RunAt (w : World) (L B : Nat) (s : Cs) (a : Option Addr) (cap : Nat) : Prop where
  c0 : w.cell? ⟨B, 0, none⟩ = some (.int .i64 s.cur)
  c1 : w.cell? ⟨B, 1, none⟩ = some (.int .i64 s.left)
  c2 : w.cell? ⟨B, 2, none⟩ = some (.slice a s.slots.length cap)
  fz : ∀ o, w.frozen? ⟨B, o, none⟩ = false
  lt : L ≤ B ∧ B < w.heap.size
  own : OwR L w a cap s.slots
  ne : ∀ p : Addr, a = some p → p.block ≠ B
/-- the blocks of the run -/
def RunBk (B : Nat) (a : Option Addr) : Nat → Prop := fun k => k = B ∨ ∃ p : Addr, a = some p ∧ k = p.block
theorem RunAt.keep {w w' : World} {L B : Nat} {s : Cs} {a : Option Addr} {cap : Nat} {S : Nat → Prop} (h : RunAt w L B s a cap) (k : Kp S w w') (hS : ∀ i, RunBk B a i → ¬ S i) : RunAt w' L B s a cap := by
  obtain ⟨c0, c1, c2, fz, lt, own, ne⟩ := h
  have hB := hS B (.inl rfl)
  exact ⟨k.cell c0 hB, k.cell c1 hB, k.cell c2 hB, fun o => (k.fz lt.2 hB).trans (fz o), by have := k.size; omega, own.keep k (fun p hp => hS _ (.inr ⟨p, hp, rfl⟩)), ne⟩
theorem RunAt.next {w w' : World} {L B : Nat} {s : Cs} {a : Option Addr} {cap : Nat} (h : RunAt w L B s a cap) (hb : Below w.heap.size w w') : RunAt w' L B s a cap :=
  h.keep (S := fun _ => False) (Kp.of_below hb) (fun _ _ => id)
theorem RunAt.lo {w : World} {L B : Nat} {s : Cs} {a : Option Addr} {cap : Nat} (h : RunAt w L B s a cap) : ∀ k, RunBk B a k → L ≤ k := by
  intro k hk
  rcases hk with rfl | ⟨p, hp, rfl⟩
  · exact h.lt.1
  · exact (h.own.blk p hp).1

theorem app_keep {w w1 : World} {o : Obj} {r : Option Nat} (hg : (w.alloc o).grownBy w1 r) : Kp (fun i => r = some i) w w1 :=
  ⟨hg.os, hg.tape, hg.output, Nat.le_trans (by simp) hg.size, fun k hk hn => (hg.block k (by simp; omega) (fun e => hn e.symm)).trans (heap_alloc_old w o hk)⟩
/-- The model's run begins. -/
def BeginP (w : World) (n m : Nat) (e : Ending) (w' : World) : Prop :=
  ∃ B a cap, e = .returned (.pointer (some ⟨B, 0, none⟩)) ∧ RunAt w' w.heap.size B (cs0 n m) a cap ∧ Below w.heap.size w w'
set_option maxRecDepth 100000 in
set_option maxHeartbeats 1600000 in
theorem sBegin (n m : Nat) (hm : m ≤ 8) (w : World) : Calls Try.prog 63 #[.int .i64 n, .int .i64 m] w (BeginP w n m) := by
  obtain ⟨i0, hi, hz0, hz1, hz2⟩ := info_parts info64
  go_enter Try.func63, Try.ntmps63
  go_wp2_with fail
  obtain ⟨w0, hw0⟩ : ∃ w0, w0 = w.alloc (.cells #[.int .i64 0, .int .i64 n, .slice none 0 0] 73) := ⟨_, rfl⟩
  have A0 : Below w.heap.size w w0 := by rw [hw0]; exact (Below.refl _ _).alloc (Nat.le_refl _) _
  have z0 : w0.heap.size = w.heap.size + 1 := by rw [hw0]; simp
  have p0 : w0.cell? ⟨w.heap.size, 0, none⟩ = some (.int .i64 0) := by rw [hw0]; simp [go_sem]
  have p1 : w0.cell? ⟨w.heap.size, 1, none⟩ = some (.int .i64 n) := by rw [hw0]; simp [go_sem]
  have p2 : w0.cell? ⟨w.heap.size, 2, none⟩ = some (.slice none 0 0) := by rw [hw0]; simp [go_sem]
  have pf : ∀ o, w0.frozen? ⟨w.heap.size, o, none⟩ = false := fun o => by rw [hw0]; simp [go_sem]
  have O0 : OwR (w.heap.size + 1) w0 none 0 (List.replicate 0 (-1)) := World.ownsRow_nil _ _ _ _
  have R0 : Hid (RunAt w0 w.heap.size w.heap.size ⟨0, n, List.replicate 0 (-1)⟩ none 0) := ⟨p0, p1, p2, pf, by omega, O0.mono (by omega), fun p hp => by cases hp⟩
  rw [← hw0]
  clear hw0 p0 p1 p2 pf
  go_loopw [6] (fun q wr => ∃ (k : Nat) (a : Option Addr) (cap : Nat), k ≤ m ∧ q = .int .i64 k ∧ Hid (RunAt wr w.heap.size w.heap.size ⟨0, n, List.replicate k (-1)⟩ a cap) ∧ OwR (w.heap.size + 1) wr a cap (List.replicate k (-1)) ∧ Below w.heap.size w wr) (fun q _ => m - (intOf q).toNat)
  case atStart => exact ⟨0, none, 0, Nat.zero_le _, rfl, R0, O0, A0⟩
  case round =>
    obtain ⟨k, a, cap, hk, rfl, HR, ho, hw⟩ := hrel
    clear R0 O0 A0 z0
    by_cases hlt : k < m
    · have hki : (k : Int) < (m : Int) := by omega
      obtain ⟨c0, c1, c2, fz, lt, own, ne⟩ := HR.out
      simp only [List.length_replicate] at c2
      have ho1 : wr.ownsRow (w.heap.size + 1) 2 1 (.slice a k cap) k ((List.replicate k (-1)).map (Value.int .i64)) := by
        have := ho; unfold OwR at this; rw [List.length_replicate] at this; exact this
      have f2 := fz 2
      have hs := lt.2
      have hob := fun q hq => (World.ownsRow.lt ho1 q hq).1
      have HNE : Hid (¬ (Value.slice a k cap).ownBlock = some w.heap.size) := fun hh => by have := hob _ hh; omega
      have HS := Lib.hid lt
      have HF := Lib.hid fz
      clear own ne ho HR hob fz lt
      go_wp2_with (at_builtin; refine wpList_append_lies _ rfl _ _ _ rfl (w.heap.size + 1) 2 i0 _ 1 8 Try.underlying22 hi hz0 hz1 hz2 rfl (by omega) (.slice a k cap) k ((List.replicate k (-1)).map (Value.int .i64)) rfl (ho1.alloc _) ⟨wr.heap.size, 0, none⟩ 1 1 [.int .i64 (-1)] rfl rfl (World.news_of_block (cs := #[.int .i64 (-1)]) (t := 2) (fr := (0, 0)) (heap_alloc_new wr _)) (by simp [Value.oneCell']) (by omega) (by unfold maxLen; omega) (by omega) (by simp <;> omega) (wr.heap.size + 1) (by simp) ?_; intro gg cc w1 hown1 hgrow hat hlt1; have HK := Lib.hid (app_keep hgrow); have e0 := HK.out.cell c0 HNE.out; have e1 := HK.out.cell c1 HNE.out; have e2 := HK.out.cell c2 HNE.out; have f2 := (HK.out.fz (o := 2) hs HNE.out).trans (HF.out 2); have HO1 := Lib.hid hown1; clear hown1 hgrow hat)
      have hw1 : Below w.heap.size w w1 := hw.trans (HK.out.below (by omega) (fun i hi => by have e1 := (World.ownsRow.lt ho1 i hi).1; omega))
      have hz1 := HK.out.size
      have HO2 : Hid (OwR (w.heap.size + 1) w1 (some ⟨gg, 0, none⟩) cc (List.replicate (k + 1) (-1))) := by
        have := HO1.out; show World.ownsRow _ _ _ _ _ _ _
        rw [List.length_replicate, List.replicate_succ', List.map_append]; exact this
      have hgb := (HO2.out.blk _ rfl).1
      have HR2 : Hid (RunAt (w1.setCell ⟨w.heap.size, 2, none⟩ (.slice (some ⟨gg, 0, none⟩) (k + 1) cc)) w.heap.size w.heap.size ⟨0, n, List.replicate (k + 1) (-1)⟩ (some ⟨gg, 0, none⟩) cc) := by
        have kk : Kp (fun i => i = w.heap.size) w1 (w1.setCell ⟨w.heap.size, 2, none⟩ (.slice (some ⟨gg, 0, none⟩) (k + 1) cc)) := Kp.set rfl
        refine ⟨?_, ?_, ?_, fun o => ?_, by simp; omega, (HO2.out.keep kk (fun p hp => by cases hp; show ¬ gg = _; exact fun hh => by have : (⟨gg, 0, none⟩ : Addr).block = gg := rfl; omega)).mono (by omega), fun p hp => by cases hp; show gg ≠ _; have : (⟨gg, 0, none⟩ : Addr).block = gg := rfl; omega⟩
        · rw [World.cell?_setCell_other _ _ _ _ (by intro e; simp only [Addr.mk.injEq] at e; omega)]; exact e0
        · rw [World.cell?_setCell_other _ _ _ _ (by intro e; simp only [Addr.mk.injEq] at e; omega)]; exact e1
        · rw [List.length_replicate]; exact World.cell?_setCell_same _ _ _ e2
        · rw [World.frozen?_setCell]; exact (HK.out.fz hs HNE.out).trans (HF.out o)
      have hw2 : Below w.heap.size w (w1.setCell ⟨w.heap.size, 2, none⟩ (.slice (some ⟨gg, 0, none⟩) (k + 1) cc)) := hw1.setCell (Nat.le_refl _) _
      have HO3 : Hid (OwR (w.heap.size + 1) (w1.setCell ⟨w.heap.size, 2, none⟩ (.slice (some ⟨gg, 0, none⟩) (k + 1) cc)) (some ⟨gg, 0, none⟩) cc (List.replicate (k + 1) (-1))) :=
        HO2.out.keep (S := fun i => i = w.heap.size) (Kp.set rfl) (fun p hp => by cases hp; show ¬ gg = _; exact fun hh => by have : (⟨gg, 0, none⟩ : Addr).block = gg := rfl; omega)
      clear e0 e1 e2 f2 c0 c1 c2 HO1 HO2 HF HNE ho1
      go_wp2_with fail
      go_roundw
      case rel => exact ⟨k + 1, _, cc, by omega, by go_num, HR2, HO3.out, hw2⟩
      case measure => simp [intOf]; omega
    · have hki : ¬ (k : Int) < (m : Int) := by omega
      have hkm : k = m := by omega
      subst hkm
      clear ho
      go_wp2_with fail
      go_ret
      exact ⟨_, a, cap, rfl, HR.out, hw⟩


set_option maxRecDepth 100000 in
set_option maxHeartbeats 1600000 in
theorem sPossible_1 (s : Cs) (x : Int) (h0 : 0 ≤ s.cur ∧ s.cur ≤ 40) (hx : 1 ≤ x ∧ x ≤ 40) (L B : Nat) (a : Option Addr) (cap : Nat) (w : World) (hR : RunAt w L B s a cap) :
    Calls Try.prog 80 #[.pointer (some ⟨B, 0, none⟩), acv ⟨1, x⟩] w fun e w' => e = .returned (.bool (posB s ⟨1, x⟩)) ∧ Below w.heap.size w w' := by
  rw [posB_1]
  unfold acv
  obtain ⟨c0, c1, c2, fz, lt, own, ne⟩ := hR
  have B1 : ∀ o, Below w.heap.size w (w.alloc o) := fun o => (Below.refl _ _).alloc (Nat.le_refl _) o
  have e1 : IntKind.i64.wrap (s.cur + x) = s.cur + x := IntWalk.i64_in _ (by omega)
  have hB := lt.2
  clear own ne fz lt c2
  generalize s.cur = c at *
  generalize s.left = q at *
  go_enter Try.func80, Try.ntmps80
  go_wp2_with fail
  go_quiet (fail)
  go_wp2_with fail
  go_ret
  exact ⟨rfl, below_drewN (B1 _) _⟩

set_option maxRecDepth 100000 in
set_option maxHeartbeats 1600000 in
theorem sPossible_2 (s : Cs) (x : Int) (hx : 0 ≤ x ∧ x ≤ 7) (L B : Nat) (a : Option Addr) (cap : Nat) (w : World) (hR : RunAt w L B s a cap) :
    Calls Try.prog 80 #[.pointer (some ⟨B, 0, none⟩), acv ⟨2, x⟩] w fun e w' => e = .returned (.bool (posB s ⟨2, x⟩)) ∧ Below w.heap.size w w' := by
  rw [posB_2]
  unfold acv
  obtain ⟨c0, c1, c2, fz, lt, own, ne⟩ := hR
  have B1 : ∀ o, Below w.heap.size w (w.alloc o) := fun o => (Below.refl _ _).alloc (Nat.le_refl _) o
  have hB := lt.2
  clear own ne fz lt c0 c1
  generalize s.slots.length = q at *
  go_enter Try.func80, Try.ntmps80
  go_wp2_with fail
  go_quiet (fail)
  go_wp2_with fail
  go_ret
  exact ⟨rfl, below_drewN (B1 _) _⟩

set_option maxRecDepth 100000 in
set_option maxHeartbeats 1600000 in
theorem sPossible_3 (s : Cs) (x : Nat) (hx : x ≤ 7) (L B : Nat) (a : Option Addr) (cap : Nat) (w : World) (hR : RunAt w L B s a cap) :
    Calls Try.prog 80 #[.pointer (some ⟨B, 0, none⟩), .agg #[.int .i64 3, .int .i64 x]] w fun e w' => e = .returned (.bool (posB s ⟨3, x⟩)) ∧ Below w.heap.size w w' := by
  rw [posB_3, Int.toNat_natCast]
  obtain ⟨c0, c1, c2, fz, lt, own, ne⟩ := hR
  have B1 : ∀ o, Below w.heap.size w (w.alloc o) := fun o => (Below.refl _ _).alloc (Nat.le_refl _) o
  have hB := lt.2
  by_cases hl : x < s.slots.length
  · obtain ⟨g, rfl, ho⟩ := own.own (by omega)
    have hg := ho.cellAt x hl
    have hgs := ho.base.2
    have hi : (x : Int) < (s.slots.length : Int) := by omega
    have HZ : Hid ((decide ((x : Int) < (s.slots.length : Int)) && decide (0 ≤ s.slots.getD x 0)) = decide (0 ≤ s.slots.getD x 0)) := by show _ = _; rw [decide_eq_true hi, Bool.true_and]
    rw [HZ.out]
    have d1 : decide (x < s.slots.length) = true := decide_eq_true hl
    have d2 : decide ((x : Int) < (s.slots.length : Int)) = true := decide_eq_true hi
    clear own ne fz lt c0 c1 HZ ho
    generalize s.slots.getD x 0 = y at *
    generalize s.slots.length = q at *
    go_enter Try.func80, Try.ntmps80
    go_wp2_with fail
    go_quiet (fail)
    go_wp2_with fail
    go_ret
    exact ⟨rfl, below_drewN (B1 _) _⟩
  · have hi : ¬ (x : Int) < (s.slots.length : Int) := by omega
    have HZ : Hid ((decide ((x : Int) < (s.slots.length : Int)) && decide (0 ≤ s.slots.getD x 0)) = false) := by show _ = _; rw [decide_eq_false hi, Bool.false_and]
    rw [HZ.out]
    have d1 : decide (x < s.slots.length) = false := decide_eq_false hl
    have d2 : decide ((x : Int) < (s.slots.length : Int)) = false := decide_eq_false hi
    clear own ne fz lt c0 c1 HZ
    generalize s.slots.length = q at *
    go_enter Try.func80, Try.ntmps80
    go_wp2_with fail
    go_quiet (fail)
    go_wp2_with fail
    go_ret
    exact ⟨rfl, below_drewN (B1 _) _⟩

set_option maxRecDepth 100000 in
set_option maxHeartbeats 1600000 in
theorem sPossible_4 (s : Cs) (h0 : 0 ≤ s.left ∧ s.left ≤ 40) (L B : Nat) (a : Option Addr) (cap : Nat) (w : World) (hR : RunAt w L B s a cap) :
    Calls Try.prog 80 #[.pointer (some ⟨B, 0, none⟩), acv ⟨4, 0⟩] w fun e w' => e = .returned (.bool (posB s ⟨4, 0⟩)) ∧ Below w.heap.size w w' := by
  have HE : Hid ((s.cur == s.left - 1) = posB s ⟨4, 0⟩) := by
    show _ = _; rw [posB_4]; by_cases h : s.cur = s.left - 1
    · rw [decide_eq_true h, h]; simp
    · rw [decide_eq_false h]; simpa using h
  generalize posB s ⟨4, 0⟩ = z at *
  unfold acv
  obtain ⟨c0, c1, c2, fz, lt, own, ne⟩ := hR
  have B1 : ∀ o, Below w.heap.size w (w.alloc o) := fun o => (Below.refl _ _).alloc (Nat.le_refl _) o
  have e1 : IntKind.i64.wrap (s.left - 1) = s.left - 1 := IntWalk.i64_in _ (by omega)
  have hB := lt.2
  clear own ne fz lt c2
  generalize s.cur = c at *
  generalize s.left = q at *
  go_enter Try.func80, Try.ntmps80
  go_wp2_with fail
  go_quiet (fail)
  go_wp2_with fail
  go_ret
  exact ⟨ret_bool HE.out, below_drewN (B1 _) _⟩

theorem sPossible (s : Cs) (x : Ac) (hx : acB x = true) (h0 : 0 ≤ s.cur ∧ s.cur ≤ 40) (h1 : 0 ≤ s.left ∧ s.left ≤ 40) (L B : Nat) (a : Option Addr) (cap : Nat) (w : World) (hR : RunAt w L B s a cap) :
    Calls Try.prog 80 #[.pointer (some ⟨B, 0, none⟩), acv x] w fun e w' => e = .returned (.bool (posB s x)) ∧ Below w.heap.size w w' := by
  rcases ac_cases hx with ⟨y, rfl, y0, y1⟩ | ⟨y, rfl, y0, y1⟩ | ⟨y, rfl, y0, y1⟩ | rfl
  · exact sPossible_1 s y h0 ⟨y0, y1⟩ L B a cap w hR
  · exact sPossible_2 s y ⟨y0, y1⟩ L B a cap w hR
  · obtain ⟨j, rfl⟩ : ∃ j : Nat, y = j := ⟨y.toNat, by omega⟩
    exact sPossible_3 s j (by omega) L B a cap w hR
  · exact sPossible_4 s h1 L B a cap w hR


theorem RunAt.setCur {w : World} {L B : Nat} {s : Cs} {a : Option Addr} {cap : Nat} (h : RunAt w L B s a cap) (v : Int) : RunAt (w.setCell ⟨B, 0, none⟩ (.int .i64 v)) L B ⟨v, s.left, s.slots⟩ a cap := by
  obtain ⟨c0, c1, c2, fz, lt, own, ne⟩ := h
  refine ⟨World.cell?_setCell_same _ _ _ c0, ?_, ?_, fun o => by rw [World.frozen?_setCell]; exact fz o, by simp; omega, own.keep (S := fun i => i = B) (Kp.set rfl) (fun p hp hh => ne p hp hh), ne⟩
  · rw [World.cell?_setCell_other _ _ _ _ (by intro e; simp only [Addr.mk.injEq] at e; omega)]; exact c1
  · rw [World.cell?_setCell_other _ _ _ _ (by intro e; simp only [Addr.mk.injEq] at e; omega)]; exact c2
theorem RunAt.setLeft {w : World} {L B : Nat} {s : Cs} {a : Option Addr} {cap : Nat} (h : RunAt w L B s a cap) (v : Int) : RunAt (w.setCell ⟨B, 1, none⟩ (.int .i64 v)) L B ⟨s.cur, v, s.slots⟩ a cap := by
  obtain ⟨c0, c1, c2, fz, lt, own, ne⟩ := h
  refine ⟨?_, World.cell?_setCell_same _ _ _ c1, ?_, fun o => by rw [World.frozen?_setCell]; exact fz o, by simp; omega, own.keep (S := fun i => i = B) (Kp.set rfl) (fun p hp hh => ne p hp hh), ne⟩
  · rw [World.cell?_setCell_other _ _ _ _ (by intro e; simp only [Addr.mk.injEq] at e; omega)]; exact c0
  · rw [World.cell?_setCell_other _ _ _ _ (by intro e; simp only [Addr.mk.injEq] at e; omega)]; exact c2
theorem RunAt.setSlot {w : World} {L B g : Nat} {s : Cs} {cap : Nat} (h : RunAt w L B s (some ⟨g, 0, none⟩) cap) (k : Nat) (v : Int) : RunAt (w.setCell ⟨g, k, none⟩ (.int .i64 v)) L B ⟨s.cur, s.left, s.slots.set k v⟩ (some ⟨g, 0, none⟩) cap := by
  obtain ⟨c0, c1, c2, fz, lt, own, ne⟩ := h
  have hn := ne _ rfl
  have hn : g ≠ B := hn
  have ho : Own L w g cap s.slots := own
  refine ⟨?_, ?_, ?_, fun o => by rw [World.frozen?_setCell]; exact fz o, by simp; omega, (ho.set k v).owr, ne⟩
  · rw [World.cell?_setCell_other _ _ _ _ (by intro e; simp only [Addr.mk.injEq] at e; omega)]; exact c0
  · rw [World.cell?_setCell_other _ _ _ _ (by intro e; simp only [Addr.mk.injEq] at e; omega)]; exact c1
  · rw [World.cell?_setCell_other _ _ _ _ (by intro e; simp only [Addr.mk.injEq] at e; omega), List.length_set]; exact c2
theorem below_ad (w : World) (o : Obj) : Below w.heap.size w (w.alloc o).drew := by
  have h := (Below.refl w.heap.size w).alloc (Nat.le_refl _) o
  exact ⟨h.os, h.tape, h.output, h.size, h.block⟩
/-- what an action leaves: the run is the next one, all but its blocks is kept -/
def ActP (w : World) (L B : Nat) (s : Cs) (a : Option Addr) (cap : Nat) (e : Ending) (w' : World) : Prop :=
  e = .returned (.tuple #[]) ∧ RunAt w' L B s a cap ∧ Kp (RunBk B a) w w'
theorem actP_of {w w1 : World} {L B : Nat} {s : Cs} {a : Option Addr} {cap : Nat} {e : Ending} (he : e = .returned (.tuple #[])) (h : RunAt w1 L B s a cap) (k : Kp (RunBk B a) w w1) (o : Obj) : ActP w L B s a cap e (w1.alloc o).drew :=
  ⟨he, h.next (below_ad w1 o), k.trans (Kp.of_below (below_ad w1 o))⟩
set_option maxRecDepth 100000 in
set_option maxHeartbeats 1600000 in
theorem sAct_1 (s : Cs) (x : Int) (h0 : 0 ≤ s.cur ∧ s.cur ≤ 40) (hx : 1 ≤ x ∧ x ≤ 40) (L B : Nat) (a : Option Addr) (cap : Nat) (w : World) (hR : RunAt w L B s a cap) :
    Calls Try.prog 64 #[.pointer (some ⟨B, 0, none⟩), acv ⟨1, x⟩] w (ActP w L B (actS s ⟨1, x⟩) a cap) := by
  rw [actS_1]
  unfold acv
  have HR := Lib.hid (hR.setCur (s.cur + x))
  obtain ⟨c0, c1, c2, fz, lt, own, ne⟩ := hR
  have hB := lt.2
  have f0 := fz 0
  clear own ne lt c2 c1 fz
  generalize s.cur = c at *
  go_enter Try.func64, Try.ntmps64
  go_wp2_with fail
  go_region
  all_goals
    go_wp2_with fail
    go_end0
    exact actP_of rfl HR.out (Kp.set (.inl rfl)) _


set_option maxRecDepth 100000 in
set_option maxHeartbeats 1600000 in
theorem sAct_2 (s : Cs) (x : Nat) (hl : x < s.slots.length) (hx : x ≤ 7) (L B : Nat) (a : Option Addr) (cap : Nat) (w : World) (hR : RunAt w L B s a cap) :
    Calls Try.prog 64 #[.pointer (some ⟨B, 0, none⟩), .agg #[.int .i64 2, .int .i64 x]] w (ActP w L B (actS s ⟨2, x⟩) a cap) := by
  rw [actS_2, Int.toNat_natCast]
  obtain ⟨g, rfl, ho⟩ := hR.own.own (by omega)
  have HR := Lib.hid (hR.setSlot x s.cur)
  obtain ⟨c0, c1, c2, fz, lt, own, ne⟩ := hR
  have hg := ho.cellAt x hl
  have hgf := ho.frz x
  have hgs := ho.base.2
  have hB := lt.2
  have hi : (x : Int) < (s.slots.length : Int) := by omega
  clear own ne lt c1 fz ho
  generalize s.slots.getD x 0 = y at hg
  generalize s.slots.length = q at *
  generalize s.cur = c at *
  go_enter Try.func64, Try.ntmps64
  go_wp2_with fail
  go_region
  all_goals
    go_wp2_with fail
    go_end0
    exact actP_of rfl HR.out (Kp.set (.inr ⟨_, rfl, rfl⟩)) _

set_option maxRecDepth 100000 in
set_option maxHeartbeats 1600000 in
theorem sAct_3 (s : Cs) (x : Nat) (hl : x < s.slots.length) (hx : x ≤ 7) (L B : Nat) (a : Option Addr) (cap : Nat) (w : World) (hR : RunAt w L B s a cap) :
    Calls Try.prog 64 #[.pointer (some ⟨B, 0, none⟩), .agg #[.int .i64 3, .int .i64 x]] w (ActP w L B (actS s ⟨3, x⟩) a cap) := by
  rw [actS_3, Int.toNat_natCast]
  obtain ⟨g, rfl, ho⟩ := hR.own.own (by omega)
  have HR := Lib.hid (hR.setCur (s.slots.getD x 0))
  obtain ⟨c0, c1, c2, fz, lt, own, ne⟩ := hR
  have hg := ho.cellAt x hl
  have hgs := ho.base.2
  have hB := lt.2
  have f0 := fz 0
  have hi : (x : Int) < (s.slots.length : Int) := by omega
  clear own ne lt c1 fz ho
  generalize s.slots.getD x 0 = y at *
  generalize s.slots.length = q at *
  generalize s.cur = c at *
  go_enter Try.func64, Try.ntmps64
  go_wp2_with fail
  go_region
  all_goals
    go_wp2_with fail
    go_end0
    exact actP_of rfl HR.out (Kp.set (.inl rfl)) _

set_option maxRecDepth 100000 in
set_option maxHeartbeats 1600000 in
theorem sAct_4 (s : Cs) (L B : Nat) (a : Option Addr) (cap : Nat) (w : World) (hR : RunAt w L B s a cap) :
    Calls Try.prog 64 #[.pointer (some ⟨B, 0, none⟩), acv ⟨4, 0⟩] w (ActP w L B (actS s ⟨4, 0⟩) a cap) := by
  rw [actS_4]
  unfold acv
  have HR := Lib.hid (hR.setLeft s.cur)
  obtain ⟨c0, c1, c2, fz, lt, own, ne⟩ := hR
  have hB := lt.2
  have f1 := fz 1
  clear own ne lt c2 fz
  generalize s.cur = c at *
  go_enter Try.func64, Try.ntmps64
  go_wp2_with fail
  go_end0
  have hb := (Below.refl (w.setCell ⟨B, 1, none⟩ (.int .i64 c)).heap.size (w.setCell ⟨B, 1, none⟩ (.int .i64 c))).alloc (Nat.le_refl _) (.cells #[.int .i64 4, .int .i64 0] 53)
  exact ⟨rfl, HR.out.next hb, Kp.trans (Kp.set (.inl rfl)) (Kp.of_below hb)⟩

theorem sAct (s : Cs) (x : Ac) (hx : acB x = true) (hp : posB s x = true) (h0 : 0 ≤ s.cur ∧ s.cur ≤ 40) (L B : Nat) (a : Option Addr) (cap : Nat) (w : World) (hR : RunAt w L B s a cap) :
    Calls Try.prog 64 #[.pointer (some ⟨B, 0, none⟩), acv x] w (ActP w L B (actS s x) a cap) := by
  rcases ac_cases hx with ⟨y, rfl, y0, y1⟩ | ⟨y, rfl, y0, y1⟩ | ⟨y, rfl, y0, y1⟩ | rfl
  · exact sAct_1 s y h0 ⟨y0, y1⟩ L B a cap w hR
  · obtain ⟨j, rfl⟩ : ∃ j : Nat, y = j := ⟨y.toNat, by omega⟩
    rw [posB_2] at hp
    have := of_decide_eq_true hp
    exact sAct_2 s j (by omega) (by omega) L B a cap w hR
  · obtain ⟨j, rfl⟩ : ∃ j : Nat, y = j := ⟨y.toNat, by omega⟩
    rw [posB_3, Bool.and_eq_true] at hp
    have := of_decide_eq_true hp.1
    exact sAct_3 s j (by omega) (by omega) L B a cap w hR
  · exact sAct_4 s L B a cap w hR

/-- the first action that is not possible, and whether there is one or a step is left -/
def BadP (n m : Nat) (l : List Ac) (w : World) (e : Ending) (w' : World) : Prop :=
  e = .returned (.tuple #[.int .i64 ((goS (cs0 n m) l).1 : Nat), .bool (!allB (cs0 n m) l)]) ∧ Below w.heap.size w w'
theorem ret_ib {a c : Int} {b d : Bool} (h : a = c) (h2 : b = d) : Ending.returned (.tuple #[.int .i64 a, .bool b]) = .returned (.tuple #[.int .i64 c, .bool d]) := by rw [h, h2]
set_option maxRecDepth 100000 in
set_option maxHeartbeats 3200000 in
theorem sBad (n m : Nat) (hn : n ≤ 40) (hm : m ≤ 8) (l : List Ac) (hl : schB l = true) (a : Option Addr) (cap : Nat) (w : World) (hP : AcAt w 0 w.heap.size l a) :
    Calls Try.prog 61 #[.slice a l.length cap, .int .i64 n, .int .i64 m] w (BadP n m l w) := by
  have hll := (schB_t hl).1
  go_enter Try.func61, Try.ntmps61
  go_wp2_with fail
  refine (sBegin n m hm w).mono ?_; rintro e w1 ⟨B, ar, cr, rfl, HR, hb⟩
  have HR0 := Lib.hid HR
  clear HR
  go_wp2_with fail
  go_loopw [9] (fun q wr => ∃ (i : Nat) (s : Cs), i ≤ l.length ∧ q = .int .i64 i ∧ Hid (Far (cs0 n m) l i s) ∧ Hid (Iv n m s) ∧ Hid (RunAt wr w.heap.size B s ar cr) ∧ Below w.heap.size w wr) (fun q _ => l.length - (intOf q).toNat)
  case atStart => exact ⟨0, cs0 n m, Nat.zero_le _, rfl, far0 _ _, iv0 n m, HR0.out, hb⟩
  case round =>
    obtain ⟨i, s, hi, rfl, HX, HI, HR, hw⟩ := hrel
    clear HR0 hb
    by_cases hlt : i < l.length
    · have hii : (i : Int) < (l.length : Int) := by omega
      obtain ⟨b, off, rfl, hbB, hall⟩ := ((hP.below hw).resolve_left (by intro e; rw [e] at hlt; simp at hlt))
      obtain ⟨hr, c0, c1⟩ := hall i hlt
      have hac := schB_ac hl i hlt
      have b0 : 0 ≤ s.cur ∧ s.cur ≤ 40 := ⟨HI.out.c0, by have := HI.out.c1; omega⟩
      have b1 : 0 ≤ s.left ∧ s.left ≤ 40 := ⟨HI.out.l0, by have := HI.out.l1; omega⟩
      have HC := Lib.hid (sPossible s (l.getD i noAc) hac b0 b1 w.heap.size B ar cr wr HR.out)
      have HA := fun (W : World) (hp : posB s (l.getD i noAc) = true) (hb : Below wr.heap.size wr W) => Lib.hid (sAct s (l.getD i noAc) hac hp b0 w.heap.size B ar cr W (HR.out.next hb))
      have HN := fun (hp : posB s (l.getD i noAc) = true) => Lib.hid (And.intro (HX.out.step hlt hp) (HI.out.act hac hp))
      have HS := fun (hp : posB s (l.getD i noAc) = false) => Lib.hid (HX.out.stop hlt hp)
      have hlo := Lib.hid HR.out.lo
      have hsz := hw.size
      have HB0 := Lib.hid (show b < w.heap.size from by omega)
      clear hall hP HX HI hr HR hac b0 b1
      generalize l.getD i noAc = x at *
      go_wp2_with fail
      refine (HC.out).mono ?_; rintro e w2 ⟨rfl, hb2⟩
      clear HC
      cases hx : posB s x with
      | true =>
        have HN2 := HN hx
        have HA2 := HA w2 hx hb2
        have hw2 := hw.trans (hb2.mono hsz)
        have k0 := (tbcell hb2).1 b (off + i * 2) (Nat.lt_of_lt_of_le HB0.out hsz)
        have k1 := (tbcell hb2).1 b (off + i * 2 + 1) (Nat.lt_of_lt_of_le HB0.out hsz)
        rw [← k0] at c0
        rw [← k1] at c1
        have hs2 := hb2.size
        clear HN HS HA hx k0 k1
        go_wp2_with fail
        refine (HA2.out).mono ?_; rintro e w3 ⟨rfl, HR3, hk3⟩
        have HR4 := Lib.hid HR3
        have hw3 := hw2.trans (hk3.below (by omega) hlo.out)
        clear HA2 hk3 HR3 c0 c1
        go_wp2_with fail
        go_roundw
        case rel => exact ⟨i + 1, _, by omega, by go_num, HN2.out.1, HN2.out.2, HR4, hw3⟩
        case measure => simp [intOf]; omega
      | false =>
        have HF := HS hx
        have hw2 := hw.trans (hb2.mono hsz)
        have HE : Hid ((goS (cs0 n m) l).1 = i ∧ allB (cs0 n m) l = false) := ⟨by rw [HF.out], by unfold allB; rw [HF.out, decide_eq_false (by show ¬ i = l.length; omega), Bool.false_and]⟩
        clear HN HS HA hx HF c0 c1
        go_wp2_with fail
        go_ret2
        exact ⟨ret_ib (by rw [HE.out.1]) (by rw [HE.out.2]; rfl), hw2⟩
    · have hii : ¬ (i : Int) < (l.length : Int) := by omega
      have HF := Lib.hid (HX.out.full (by omega))
      have hL : Hid (i = l.length) := by show _ = _; omega
      obtain ⟨c0, c1, c2, fz, lt, own, ne⟩ := HR.out
      have HE : Hid ((((goS (cs0 n m) l).1 : Nat) : Int) = (l.length : Int) ∧ (!allB (cs0 n m) l) = decide (0 < s.left)) := by
        refine ⟨by rw [HF.out]; show (i : Int) = _; rw [hL.out], ?_⟩
        unfold allB; rw [HF.out, decide_eq_true (show (i, s).1 = l.length from hL.out), Bool.true_and]
        show (!decide (s.left ≤ 0)) = _
        by_cases h : s.left ≤ 0
        · rw [decide_eq_true h, decide_eq_false (by omega)]; rfl
        · rw [decide_eq_false h, decide_eq_true (by omega)]; rfl
      have hBs := lt.2
      clear HX HI HF HR fz lt own ne c0 c2 hP
      generalize s.left = q at *
      go_wp2_with fail
      go_quiet (fail)
      go_wp2_with fail
      go_ret2
      exact ⟨ret_ib HE.out.1.symm HE.out.2.symm, below_drewN hw _⟩

end Go.Proofs.Ytolpbflalbfhjaa
