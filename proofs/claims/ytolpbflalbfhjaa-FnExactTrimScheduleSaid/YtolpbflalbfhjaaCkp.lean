/- The program's chain: what is possible, what an action does to it and to the counts of its steps. -/
import Derived.RegionTactic
import Derived.BigQuiet
import Derived.Deep.QuietTactic
import Derived.Test.YtolpbflalbfhjaaCkm
namespace Go.Proofs.Ytolpbflalbfhjaa
open Go.RowKit
set_option linter.unusedVariables false

/-- The program's chain lies in the block B, its slots and its counts in blocks of their own. -/
structure ChAt (w : World) (L B g h : Nat) (s : Cs) (adv : List Int) : Prop where
  c0 : w.cell? ⟨B, 0, none⟩ = some (.int .i64 s.cur)
  c1 : w.cell? ⟨B, 1, none⟩ = some (.int .i64 s.left)
  c2 : w.cell? ⟨B, 2, none⟩ = some (.slice (some ⟨g, 0, none⟩) s.slots.length s.slots.length)
  c3 : w.cell? ⟨B, 3, none⟩ = some (.slice (some ⟨h, 0, none⟩) adv.length adv.length)
  f0 : w.frozen? ⟨B, 0, none⟩ = false
  f1 : w.frozen? ⟨B, 1, none⟩ = false
  lt : L ≤ B ∧ B < w.heap.size
  slots : Own L w g s.slots.length s.slots
  adv : Own L w h adv.length adv
  ne : g ≠ B ∧ h ≠ B ∧ g ≠ h
def ChBk (B g h : Nat) : Nat → Prop := fun k => k = B ∨ k = g ∨ k = h
theorem Own.keep {L : Nat} {w w' : World} {g cap : Nat} {l : List Int} {S : Nat → Prop} (h : Own L w g cap l) (k : Kp S w w') (hS : ¬ S g) : Own L w' g cap l :=
  OwR.keep h.owr k (fun p hp => by cases hp; exact hS)
theorem ChAt.keep {w w' : World} {L B g h : Nat} {s : Cs} {adv : List Int} {S : Nat → Prop} (H : ChAt w L B g h s adv) (k : Kp S w w') (hS : ∀ i, ChBk B g h i → ¬ S i) : ChAt w' L B g h s adv := by
  obtain ⟨c0, c1, c2, c3, f0, f1, lt, sl, ad, ne⟩ := H
  have hB := hS B (.inl rfl)
  exact ⟨k.cell c0 hB, k.cell c1 hB, k.cell c2 hB, k.cell c3 hB, (k.fz lt.2 hB).trans f0, (k.fz lt.2 hB).trans f1, by have := k.size; omega, sl.keep k (hS g (.inr (.inl rfl))), ad.keep k (hS h (.inr (.inr rfl))), ne⟩
theorem ChAt.next {w w' : World} {L B g h : Nat} {s : Cs} {adv : List Int} (H : ChAt w L B g h s adv) (hb : Below w.heap.size w w') : ChAt w' L B g h s adv :=
  H.keep (S := fun _ => False) (Kp.of_below hb) (fun _ _ => id)
theorem ChAt.lo {w : World} {L B g h : Nat} {s : Cs} {adv : List Int} (H : ChAt w L B g h s adv) : ∀ k, ChBk B g h k → L ≤ k := by
  intro k hk
  rcases hk with rfl | rfl | rfl
  · exact H.lt.1
  · exact H.slots.base.1
  · exact H.adv.base.1
theorem ChAt.setCur {w : World} {L B g h : Nat} {s : Cs} {adv : List Int} (H : ChAt w L B g h s adv) (v : Int) : ChAt (w.setCell ⟨B, 0, none⟩ (.int .i64 v)) L B g h ⟨v, s.left, s.slots⟩ adv := by
  obtain ⟨c0, c1, c2, c3, f0, f1, lt, sl, ad, ne⟩ := H
  have kk : Kp (fun i => i = B) w (w.setCell ⟨B, 0, none⟩ (.int .i64 v)) := Kp.set rfl
  refine ⟨World.cell?_setCell_same _ _ _ c0, ?_, ?_, ?_, by rw [World.frozen?_setCell]; exact f0, by rw [World.frozen?_setCell]; exact f1, by simp; omega, sl.keep kk ne.1, ad.keep kk ne.2.1, ne⟩
  all_goals (rw [World.cell?_setCell_other _ _ _ _ (by intro e; simp only [Addr.mk.injEq] at e; omega)]; assumption)
theorem ChAt.setLeft {w : World} {L B g h : Nat} {s : Cs} {adv : List Int} (H : ChAt w L B g h s adv) (v : Int) : ChAt (w.setCell ⟨B, 1, none⟩ (.int .i64 v)) L B g h ⟨s.cur, v, s.slots⟩ adv := by
  obtain ⟨c0, c1, c2, c3, f0, f1, lt, sl, ad, ne⟩ := H
  have kk : Kp (fun i => i = B) w (w.setCell ⟨B, 1, none⟩ (.int .i64 v)) := Kp.set rfl
  refine ⟨?_, World.cell?_setCell_same _ _ _ c1, ?_, ?_, by rw [World.frozen?_setCell]; exact f0, by rw [World.frozen?_setCell]; exact f1, by simp; omega, sl.keep kk ne.1, ad.keep kk ne.2.1, ne⟩
  all_goals (rw [World.cell?_setCell_other _ _ _ _ (by intro e; simp only [Addr.mk.injEq] at e; omega)]; assumption)
theorem ChAt.setSlot {w : World} {L B g h : Nat} {s : Cs} {adv : List Int} (H : ChAt w L B g h s adv) (k : Nat) (v : Int) : ChAt (w.setCell ⟨g, k, none⟩ (.int .i64 v)) L B g h ⟨s.cur, s.left, s.slots.set k v⟩ adv := by
  obtain ⟨c0, c1, c2, c3, f0, f1, lt, sl, ad, ne⟩ := H
  have kk : Kp (fun i => i = g) w (w.setCell ⟨g, k, none⟩ (.int .i64 v)) := Kp.set rfl
  have e : (s.slots.set k v).length = s.slots.length := List.length_set
  refine ⟨?_, ?_, ?_, ?_, by rw [World.frozen?_setCell]; exact f0, by rw [World.frozen?_setCell]; exact f1, by simp; omega, by rw [e]; exact sl.set k v, ad.keep kk (fun hh => ne.2.2 hh.symm), ne⟩
  all_goals (rw [World.cell?_setCell_other _ _ _ _ (by intro e; simp only [Addr.mk.injEq] at e; omega)]; first | assumption | (rw [e]; assumption))
theorem ChAt.setAdv {w : World} {L B g h : Nat} {s : Cs} {adv : List Int} (H : ChAt w L B g h s adv) (k : Nat) (v : Int) : ChAt (w.setCell ⟨h, k, none⟩ (.int .i64 v)) L B g h s (adv.set k v) := by
  obtain ⟨c0, c1, c2, c3, f0, f1, lt, sl, ad, ne⟩ := H
  have kk : Kp (fun i => i = h) w (w.setCell ⟨h, k, none⟩ (.int .i64 v)) := Kp.set rfl
  have e : (adv.set k v).length = adv.length := List.length_set
  refine ⟨?_, ?_, ?_, ?_, by rw [World.frozen?_setCell]; exact f0, by rw [World.frozen?_setCell]; exact f1, by simp; omega, sl.keep kk ne.2.2, by rw [e]; exact ad.set k v, ne⟩
  all_goals (rw [World.cell?_setCell_other _ _ _ _ (by intro e; simp only [Addr.mk.injEq] at e; omega)]; first | assumption | (rw [e]; assumption))

theorem iIxQ (k n : Int) (w : World) : Calls Try.prog 50 #[.int .i64 k, .int .i64 n] w fun e w' => e = .returned (.bool (ixB k n)) ∧ w' = w := (iIx k n w).mono fun e w' ⟨h1, h2⟩ => ⟨h1, h2.symm⟩

/-- what the program asks of an action -/
def posI (s : Cs) (x : Ac) : Bool :=
  if x.kind = 1 then decide (s.cur + x.arg < s.left)
  else if x.kind = 2 then ixB x.arg s.slots.length
  else if x.kind = 3 then ixB x.arg s.slots.length && !(decide (s.slots.getD x.arg.toNat 0 = -1))
  else decide (s.cur = s.left - 1)
theorem posI_eq {n m : Nat} {s : Cs} {x : Ac} (hI : Iv n m s) (hx : acB x = true) : posI s x = posB s x := by
  rcases ac_cases hx with ⟨y, rfl, y0, y1⟩ | ⟨y, rfl, y0, y1⟩ | ⟨y, rfl, y0, y1⟩ | rfl
  · rfl
  · rw [posB_2]; show decide (0 ≤ y ∧ y < _) = _
    by_cases h : y < (s.slots.length : Int)
    · rw [decide_eq_true h, decide_eq_true ⟨y0, h⟩]
    · rw [decide_eq_false h, decide_eq_false (by omega)]
  · rw [posB_3]; show (decide (0 ≤ y ∧ y < _) && !(decide (s.slots.getD y.toNat 0 = -1))) = _
    have h0 := hI.s0 y.toNat
    by_cases h : y < (s.slots.length : Int)
    · rw [decide_eq_true h, decide_eq_true ⟨y0, h⟩, Bool.true_and, Bool.true_and]
      by_cases h2 : s.slots.getD y.toNat 0 = -1
      · rw [decide_eq_true h2, decide_eq_false (by omega)]; rfl
      · rw [decide_eq_false h2, decide_eq_true (by omega)]; rfl
    · rw [decide_eq_false h, decide_eq_false (by omega)]; rfl
  · rfl

set_option maxRecDepth 100000 in
set_option maxHeartbeats 1600000 in
theorem iAllows_1 (s : Cs) (adv : List Int) (x : Int) (h0 : 0 ≤ s.cur ∧ s.cur ≤ 40) (hx : 1 ≤ x ∧ x ≤ 40) (L B g h : Nat) (w : World) (hR : ChAt w L B g h s adv) :
    Calls Try.prog 82 #[.pointer (some ⟨B, 0, none⟩), acv ⟨1, x⟩] w fun e w' => e = .returned (.bool (posB s ⟨1, x⟩)) ∧ Below w.heap.size w w' := by
  rw [posB_1]
  unfold acv
  obtain ⟨c0, c1, c2, c3, f0, f1, lt, sl, ad, ne⟩ := hR
  have B1 : ∀ o, Below w.heap.size w (w.alloc o) := fun o => (Below.refl _ _).alloc (Nat.le_refl _) o
  have e1 : IntKind.i64.wrap (s.cur + x) = s.cur + x := IntWalk.i64_in _ (by omega)
  have hB := lt.2
  clear ne lt c3 sl ad
  generalize s.cur = c at *
  generalize s.left = q at *
  generalize s.slots.length = m at *
  go_enter Try.func82, Try.ntmps82
  go_wp2_with fail
  go_quiet ((go_at_call 50; exact Calls.quiet_of_same (iIxQ _ _ _)))
  go_wp2_with fail
  go_quiet (fail)
  go_wp2_with fail
  go_ret
  exact ⟨rfl, below_drewN (below_drewN (B1 _) _) _⟩

set_option maxRecDepth 100000 in
set_option maxHeartbeats 1600000 in
theorem iAllows_2 (s : Cs) (adv : List Int) (x : Int) (hx : 0 ≤ x ∧ x ≤ 7) (L B g h : Nat) (w : World) (hR : ChAt w L B g h s adv) :
    Calls Try.prog 82 #[.pointer (some ⟨B, 0, none⟩), acv ⟨2, x⟩] w fun e w' => e = .returned (.bool (posI s ⟨2, x⟩)) ∧ Below w.heap.size w w' := by
  rw [show posI s ⟨2, x⟩ = ixB x s.slots.length from rfl]
  unfold acv
  obtain ⟨c0, c1, c2, c3, f0, f1, lt, sl, ad, ne⟩ := hR
  have B1 : ∀ o, Below w.heap.size w (w.alloc o) := fun o => (Below.refl _ _).alloc (Nat.le_refl _) o
  have hB := lt.2
  clear ne lt c3 sl ad c0 c1
  generalize s.slots.length = m at *
  go_enter Try.func82, Try.ntmps82
  go_wp2_with fail
  go_quiet ((go_at_call 50; exact Calls.quiet_of_same (iIxQ _ _ _)))
  go_wp2_with fail
  go_ret
  exact ⟨rfl, below_drewN (B1 _) _⟩

set_option maxRecDepth 100000 in
set_option maxHeartbeats 1600000 in
theorem iAllows_3 (s : Cs) (adv : List Int) (x : Nat) (hx : x ≤ 7) (L B g h : Nat) (w : World) (hR : ChAt w L B g h s adv) :
    Calls Try.prog 82 #[.pointer (some ⟨B, 0, none⟩), .agg #[.int .i64 3, .int .i64 x]] w fun e w' => e = .returned (.bool (posI s ⟨3, x⟩)) ∧ Below w.heap.size w w' := by
  rw [show posI s ⟨3, x⟩ = (ixB x s.slots.length && !(decide (s.slots.getD x 0 = -1))) from rfl]
  obtain ⟨c0, c1, c2, c3, f0, f1, lt, sl, ad, ne⟩ := hR
  have B1 : ∀ o, Below w.heap.size w (w.alloc o) := fun o => (Below.refl _ _).alloc (Nat.le_refl _) o
  have hB := lt.2
  by_cases hl : x < s.slots.length
  · have hg := sl.cellAt x hl
    have hgs := sl.base.2
    have hi : (x : Int) < (s.slots.length : Int) := by omega
    have HZ : Hid (ixB x s.slots.length = true) := ixB_of ⟨by omega, hi⟩
    have HE : Hid ((s.slots.getD x 0 != -1) = (true && !(decide (s.slots.getD x 0 = -1)))) := by
      show _ = _; by_cases hh : s.slots.getD x 0 = -1
      · rw [hh]; rfl
      · rw [decide_eq_false hh]; simpa using hh
    have HC := fun (W : World) => Lib.hid (iIxQ x s.slots.length W)
    rw [HZ.out] at HC ⊢
    clear ne lt c3 ad c0 c1 HZ sl
    generalize s.slots.getD x 0 = y at *
    generalize s.slots.length = m at *
    go_enter Try.func82, Try.ntmps82
    go_wp2_with fail
    go_quiet ((go_at_call 50; exact Calls.quiet_of_same (HC _).out))
    go_wp2_with fail
    go_quiet (fail)
    go_wp2_with fail
    go_ret
    exact ⟨ret_bool HE.out, below_drewN (below_drewN (B1 _) _) _⟩
  · have hi : ¬ (x : Int) < (s.slots.length : Int) := by omega
    have HZ : Hid (ixB x s.slots.length = false) := ixB_no (by omega)
    have HC := fun (W : World) => Lib.hid (iIxQ x s.slots.length W)
    rw [HZ.out] at HC ⊢
    clear ne lt c3 ad c0 c1 HZ sl
    generalize s.slots.length = m at *
    go_enter Try.func82, Try.ntmps82
    go_wp2_with fail
    go_quiet ((go_at_call 50; exact Calls.quiet_of_same (HC _).out))
    go_wp2_with fail
    go_quiet (fail)
    go_wp2_with fail
    go_ret
    exact ⟨rfl, below_drewN (below_drewN (B1 _) _) _⟩

set_option maxRecDepth 100000 in
set_option maxHeartbeats 1600000 in
theorem iAllows_4 (s : Cs) (adv : List Int) (h0 : 0 ≤ s.left ∧ s.left ≤ 40) (L B g h : Nat) (w : World) (hR : ChAt w L B g h s adv) :
    Calls Try.prog 82 #[.pointer (some ⟨B, 0, none⟩), acv ⟨4, 0⟩] w fun e w' => e = .returned (.bool (posB s ⟨4, 0⟩)) ∧ Below w.heap.size w w' := by
  have HE : Hid ((s.cur == s.left - 1) = posB s ⟨4, 0⟩) := by
    show _ = _; rw [posB_4]; by_cases h : s.cur = s.left - 1
    · rw [decide_eq_true h, h]; simp
    · rw [decide_eq_false h]; simpa using h
  generalize posB s ⟨4, 0⟩ = z at *
  unfold acv
  obtain ⟨c0, c1, c2, c3, f0, f1, lt, sl, ad, ne⟩ := hR
  have B1 : ∀ o, Below w.heap.size w (w.alloc o) := fun o => (Below.refl _ _).alloc (Nat.le_refl _) o
  have e1 : IntKind.i64.wrap (s.left - 1) = s.left - 1 := IntWalk.i64_in _ (by omega)
  have hB := lt.2
  clear ne lt c3 sl ad
  generalize s.cur = c at *
  generalize s.left = q at *
  generalize s.slots.length = m at *
  go_enter Try.func82, Try.ntmps82
  go_wp2_with fail
  go_quiet ((go_at_call 50; exact Calls.quiet_of_same (iIxQ _ _ _)))
  go_wp2_with fail
  go_quiet (fail)
  go_wp2_with fail
  go_ret
  exact ⟨ret_bool HE.out, below_drewN (below_drewN (B1 _) _) _⟩

theorem iAllows (n m : Nat) (s : Cs) (adv : List Int) (x : Ac) (hx : acB x = true) (hI : Iv n m s) (hn : n ≤ 40) (L B g h : Nat) (w : World) (hR : ChAt w L B g h s adv) :
    Calls Try.prog 82 #[.pointer (some ⟨B, 0, none⟩), acv x] w fun e w' => e = .returned (.bool (posB s x)) ∧ Below w.heap.size w w' := by
  rw [← posI_eq hI hx]
  have i1 := hI.c1
  have i2 := hI.l1
  rcases ac_cases hx with ⟨y, rfl, y0, y1⟩ | ⟨y, rfl, y0, y1⟩ | ⟨y, rfl, y0, y1⟩ | rfl
  · exact iAllows_1 s adv y ⟨hI.c0, by omega⟩ ⟨y0, y1⟩ L B g h w hR
  · exact iAllows_2 s adv y ⟨y0, y1⟩ L B g h w hR
  · obtain ⟨j, rfl⟩ : ∃ j : Nat, y = j := ⟨y.toNat, by omega⟩
    exact iAllows_3 s adv j (by omega) L B g h w hR
  · exact iAllows_4 s adv ⟨hI.l0, by omega⟩ L B g h w hR

theorem below_dr (w : World) : Below w.heap.size w w.drew := ⟨rfl, rfl, rfl, Nat.le_refl _, fun _ _ => rfl⟩
/- the counts -/
/-- so many steps from one on are advanced over once more -/
def advT (adv : List Int) (c : Nat) : Nat → List Int
  | 0 => adv
  | j + 1 => (advT adv c j).set (c + j) ((advT adv c j).getD (c + j) 0 + 1)
theorem advT_len (adv : List Int) (c : Nat) : ∀ j, (advT adv c j).length = adv.length
  | 0 => rfl
  | j + 1 => by rw [advT, List.length_set]; exact advT_len adv c j
theorem advT_at (adv : List Int) (c i : Nat) : ∀ j, (advT adv c j).getD i 0 = if c ≤ i ∧ i < c + j ∧ i < adv.length then adv.getD i 0 + 1 else adv.getD i 0
  | 0 => by rw [advT, if_neg (by omega)]
  | j + 1 => by
    rw [advT, getD_set, advT_len, advT_at adv c i j, advT_at adv c (c + j) j]
    by_cases h : c + j = i
    · subst h
      by_cases h2 : c + j < adv.length
      · rw [if_pos ⟨rfl, h2⟩, if_neg (by omega), if_pos (by omega)]
      · rw [if_neg (by omega), if_neg (by omega), if_neg (by omega)]
    · rw [if_neg (by omega)]
      by_cases h2 : c ≤ i ∧ i < c + j ∧ i < adv.length
      · rw [if_pos h2, if_pos (by omega)]
      · rw [if_neg h2, if_neg (by omega)]
def advA (s : Cs) (x : Ac) (adv : List Int) : List Int := if x.kind = 1 then advT adv s.cur.toNat x.arg.toNat else adv
theorem advA_len (s : Cs) (x : Ac) (adv : List Int) : (advA s x adv).length = adv.length := by unfold advA; split; exact advT_len _ _ _; rfl
theorem advA_bd {s : Cs} {x : Ac} {adv : List Int} {K : Nat} (h : ∀ i, 0 ≤ adv.getD i 0 ∧ adv.getD i 0 ≤ K) : ∀ i, 0 ≤ (advA s x adv).getD i 0 ∧ (advA s x adv).getD i 0 ≤ (K + 1 : Nat) := by
  intro i
  have := h i
  unfold advA; split
  · rw [advT_at]; split <;> omega
  · omega

/-- what an action leaves -/
def DoP (w : World) (L B g h : Nat) (s : Cs) (adv : List Int) (e : Ending) (w' : World) : Prop :=
  e = .returned (.tuple #[]) ∧ ChAt w' L B g h s adv ∧ Kp (ChBk B g h) w w'
theorem doP_of {w w1 : World} {L B g h : Nat} {s : Cs} {adv : List Int} {e : Ending} (he : e = .returned (.tuple #[])) (H : ChAt w1 L B g h s adv) (k : Kp (ChBk B g h) w w1) (o : Obj) : DoP w L B g h s adv e (w1.alloc o).drew :=
  ⟨he, H.next (below_ad w1 o), k.trans (Kp.of_below (below_ad w1 o))⟩

set_option maxRecDepth 100000 in
set_option maxHeartbeats 1600000 in
theorem iDo_2 (s : Cs) (adv : List Int) (x : Nat) (hl : x < s.slots.length) (hx : x ≤ 7) (L B g h : Nat) (w : World) (hR : ChAt w L B g h s adv) :
    Calls Try.prog 83 #[.pointer (some ⟨B, 0, none⟩), .agg #[.int .i64 2, .int .i64 x]] w (DoP w L B g h (actS s ⟨2, x⟩) adv) := by
  rw [actS_2, Int.toNat_natCast]
  have HR := Lib.hid (hR.setSlot x s.cur)
  obtain ⟨c0, c1, c2, c3, f0, f1, lt, sl, ad, ne⟩ := hR
  have hg := sl.cellAt x hl
  have hgf := sl.frz x
  have hgs := sl.base.2
  have hB := lt.2
  have hi : (x : Int) < (s.slots.length : Int) := by omega
  clear ne lt c1 sl ad c3
  generalize s.slots.getD x 0 = y at hg
  generalize s.slots.length = q at *
  generalize s.cur = c at *
  go_enter Try.func83, Try.ntmps83
  go_wp2_with fail
  go_region
  all_goals
    go_wp2_with fail
    go_end0
    exact doP_of rfl HR.out (Kp.set (.inr (.inl rfl))) _

set_option maxRecDepth 100000 in
set_option maxHeartbeats 1600000 in
theorem iDo_3 (s : Cs) (adv : List Int) (x : Nat) (hl : x < s.slots.length) (hx : x ≤ 7) (L B g h : Nat) (w : World) (hR : ChAt w L B g h s adv) :
    Calls Try.prog 83 #[.pointer (some ⟨B, 0, none⟩), .agg #[.int .i64 3, .int .i64 x]] w (DoP w L B g h (actS s ⟨3, x⟩) adv) := by
  rw [actS_3, Int.toNat_natCast]
  have HR := Lib.hid (hR.setCur (s.slots.getD x 0))
  obtain ⟨c0, c1, c2, c3, f0, f1, lt, sl, ad, ne⟩ := hR
  have hg := sl.cellAt x hl
  have hgs := sl.base.2
  have hB := lt.2
  have hi : (x : Int) < (s.slots.length : Int) := by omega
  clear ne lt c1 sl ad c3
  generalize s.slots.getD x 0 = y at *
  generalize s.slots.length = q at *
  generalize s.cur = c at *
  go_enter Try.func83, Try.ntmps83
  go_wp2_with fail
  go_region
  all_goals
    go_wp2_with fail
    go_end0
    exact doP_of rfl HR.out (Kp.set (.inl rfl)) _

set_option maxRecDepth 100000 in
set_option maxHeartbeats 1600000 in
theorem iDo_4 (s : Cs) (adv : List Int) (hp : s.cur = s.left - 1) (h0 : 0 ≤ s.left ∧ s.left ≤ 40) (L B g h : Nat) (w : World) (hR : ChAt w L B g h s adv) :
    Calls Try.prog 83 #[.pointer (some ⟨B, 0, none⟩), acv ⟨4, 0⟩] w (DoP w L B g h (actS s ⟨4, 0⟩) adv) := by
  rw [actS_4]
  unfold acv
  have HR : Hid (ChAt (w.setCell ⟨B, 1, none⟩ (.int .i64 (s.left - 1))) L B g h ⟨s.cur, s.cur, s.slots⟩ adv) := by
    have := hR.setLeft (s.left - 1)
    rw [← hp] at this ⊢; exact this
  obtain ⟨c0, c1, c2, c3, f0, f1, lt, sl, ad, ne⟩ := hR
  have hB := lt.2
  clear ne lt sl ad c3 c2 c0 hp
  generalize s.cur = c at *
  generalize s.left = q at *
  go_enter Try.func83, Try.ntmps83
  go_wp2_with fail
  go_end0
  have hb := (Below.refl (w.setCell ⟨B, 1, none⟩ (.int .i64 (q - 1))).heap.size (w.setCell ⟨B, 1, none⟩ (.int .i64 (q - 1)))).alloc (Nat.le_refl _) (.cells #[.int .i64 4, .int .i64 0] 53)
  exact ⟨rfl, HR.out.next hb, Kp.trans (Kp.set (.inl rfl)) (Kp.of_below hb)⟩


set_option maxRecDepth 100000 in
set_option maxHeartbeats 3200000 in
theorem iDo_1 (s : Cs) (adv : List Int) (c x K : Nat) (hc : s.cur = c) (hx : x ≤ 40) (hcx : c + x < adv.length) (hc4 : c ≤ 40) (hK : K ≤ 400) (hA : ∀ i, 0 ≤ adv.getD i 0 ∧ adv.getD i 0 ≤ K) (L B g h : Nat) (w : World) (hR : ChAt w L B g h s adv) :
    Calls Try.prog 83 #[.pointer (some ⟨B, 0, none⟩), .agg #[.int .i64 1, .int .i64 x]] w (DoP w L B g h ⟨((c + x : Nat) : Int), s.left, s.slots⟩ (advT adv c x)) := by
  have B1 : ∀ o, Below w.heap.size w (w.alloc o) := fun o => (Below.refl _ _).alloc (Nat.le_refl _) o
  have HA := Lib.hid hA
  obtain ⟨w0, hw0⟩ : ∃ w0, w0 = w.alloc (.cells #[.int .i64 1, .int .i64 x] 53) := ⟨_, rfl⟩
  have k0 : Kp (ChBk B g h) w w0 := by rw [hw0]; exact Kp.of_below (B1 _)
  have HR0 : Hid (ChAt w0 L B g h ⟨((c + 0 : Nat) : Int), s.left, s.slots⟩ (advT adv c 0)) := by
    show ChAt _ _ _ _ _ _ _; rw [Nat.add_zero, ← hc, hw0]; exact hR.next (B1 _)
  clear hR hA hc
  go_enter Try.func83, Try.ntmps83
  go_wp2_with fail
  rw [← hw0]
  clear hw0 B1
  go_loopw [10] (fun q wr => ∃ j : Nat, j ≤ x ∧ q = .int .i64 j ∧ Hid (ChAt wr L B g h ⟨((c + j : Nat) : Int), s.left, s.slots⟩ (advT adv c j)) ∧ Kp (ChBk B g h) w wr) (fun q _ => x - (intOf q).toNat)
  case atStart => exact ⟨0, Nat.zero_le _, rfl, HR0, k0⟩
  case round =>
    obtain ⟨j, hj, rfl, HR, hk⟩ := hrel
    clear HR0 k0
    by_cases hlt : j < x
    · have hji : (j : Int) < (x : Int) := by omega
      have HN : Hid (ChAt ((wr.setCell ⟨h, c + j, none⟩ (.int .i64 ((advT adv c j).getD (c + j) 0 + 1))).setCell ⟨B, 0, none⟩ (.int .i64 ((c + j : Nat) + 1))) L B g h ⟨((c + (j + 1) : Nat) : Int), s.left, s.slots⟩ (advT adv c (j + 1))) := by
        have := (HR.out.setAdv (c + j) ((advT adv c j).getD (c + j) 0 + 1)).setCur ((c + j : Nat) + 1)
        have e : (((c + j : Nat) : Int) + 1) = ((c + (j + 1) : Nat) : Int) := by omega
        show ChAt _ _ _ _ _ _ _
        rw [← e]; exact this
      obtain ⟨c0, c1, c2, c3, f0, f1, lt, sl, ad, ne⟩ := HR.out
      have hl : c + j < (advT adv c j).length := by rw [advT_len]; omega
      have hg := ad.cellAt (c + j) hl
      have hgf := ad.frz (c + j)
      have hgs := ad.base.2
      have hy : 0 ≤ (advT adv c j).getD (c + j) 0 ∧ (advT adv c j).getD (c + j) 0 ≤ 400 := by
        rw [advT_at, if_neg (by omega)]; have := HA.out (c + j); omega
      have hB := lt.2
      have nh := ne.2.1
      have hq0 : (0 : Int) ≤ ((c + j : Nat) : Int) := by omega
      have hq1 : ((c + j : Nat) : Int) < ((advT adv c j).length : Int) := by omega
      have hq2 : ((c + j : Nat) : Int) ≤ 80 := by omega
      have e1 : IntKind.i64.wrap ((advT adv c j).getD (c + j) 0 + 1) = (advT adv c j).getD (c + j) 0 + 1 := IntWalk.i64_in _ (by omega)
      have hkn : Hid (Kp (ChBk B g h) w ((wr.setCell ⟨h, c + j, none⟩ (.int .i64 ((advT adv c j).getD (c + j) 0 + 1))).setCell ⟨B, 0, none⟩ (.int .i64 ((c + j : Nat) + 1)))) :=
        (hk.trans (Kp.set (p := ⟨h, c + j, none⟩) (.inr (.inr rfl)))).trans (Kp.set (p := ⟨B, 0, none⟩) (.inl rfl))
      clear c1 c2 lt sl ad ne HR hl
      generalize (advT adv c j).getD (c + j) 0 = y at *
      generalize (advT adv c j).length = q at *
      generalize c + j = p at *
      go_wp2_with fail
      go_region
      all_goals
        go_wp2_with fail
        go_roundw
        case rel => exact ⟨j + 1, by omega, by go_num, HN.out.next (below_dr _), hkn.out.trans (Kp.of_below (below_dr _))⟩
        case measure => simp [intOf]; omega
    · have hji : ¬ (j : Int) < (x : Int) := by omega
      have hjx : j = x := by omega
      subst hjx
      go_wp2_with fail
      go_end0
      exact ⟨rfl, HR.out, hk⟩

theorem iDo (n m : Nat) (s : Cs) (adv : List Int) (x : Ac) (K : Nat) (hx : acB x = true) (hp : posB s x = true) (hI : Iv n m s) (hn : n ≤ 40) (hl : adv.length = n) (hK : K ≤ 400) (hA : ∀ i, 0 ≤ adv.getD i 0 ∧ adv.getD i 0 ≤ K) (L B g h : Nat) (w : World) (hR : ChAt w L B g h s adv) :
    Calls Try.prog 83 #[.pointer (some ⟨B, 0, none⟩), acv x] w (DoP w L B g h (actS s x) (advA s x adv)) := by
  have i0 := hI.c0
  have i1 := hI.c1
  have i2 := hI.l1
  rcases ac_cases hx with ⟨y, rfl, y0, y1⟩ | ⟨y, rfl, y0, y1⟩ | ⟨y, rfl, y0, y1⟩ | rfl
  · rw [posB_1] at hp
    have := of_decide_eq_true hp
    obtain ⟨j, rfl⟩ : ∃ j : Nat, y = j := ⟨y.toNat, by omega⟩
    have e : (((s.cur.toNat + j : Nat)) : Int) = s.cur + j := by omega
    have := iDo_1 s adv s.cur.toNat j K (by omega) (by omega) (by omega) (by omega) hK hA L B g h w hR
    rw [e] at this
    exact this
  · obtain ⟨j, rfl⟩ : ∃ j : Nat, y = j := ⟨y.toNat, by omega⟩
    rw [posB_2] at hp
    have := of_decide_eq_true hp
    exact iDo_2 s adv j (by omega) (by omega) L B g h w hR
  · obtain ⟨j, rfl⟩ : ∃ j : Nat, y = j := ⟨y.toNat, by omega⟩
    rw [posB_3, Bool.and_eq_true] at hp
    have := of_decide_eq_true hp.1
    exact iDo_3 s adv j (by omega) (by omega) L B g h w hR
  · rw [posB_4] at hp
    exact iDo_4 s adv (of_decide_eq_true hp) ⟨hI.l0, by omega⟩ L B g h w hR

end Go.Proofs.Ytolpbflalbfhjaa
