/- The program: which expressions are valid. -/
import Derived.Deep.RegionHeld3
import Derived.Deep.RegionWith
import Derived.Test.YtoedccgiahegnaaGreatIh
namespace Go.Proofs.YtoedccgiahegnaaGreat
open Go.RowKit
set_option linter.unusedVariables false

/-- The answer of the program's look at a node: what the counter holds behind it if it is right. -/
def AccRes (r : Bool) (x' : Int) (g : Nat) (w : World) (e : Ending) (w' : World) : Prop :=
  e = .returned (.bool r) ∧ (r = true → w'.cell? ⟨g, 0, none⟩ = some (.int .i64 x')) ∧ w'.frozen? ⟨g, 0, none⟩ = false ∧ w.grownBy w' (some g)

theorem grownBy_below {w w' w'' : World} {r : Option Nat} (h : w.grownBy w' r) (hb : Below w'.heap.size w' w'') : w.grownBy w'' r :=
  grownBy_trans h ⟨hb.os, hb.tape, hb.output, hb.size, fun k hk _ => hb.block k hk⟩

theorem below_drew {B : Nat} {a w : World} (h : Below B a w) : Below B a w.drew := ⟨h.os, h.tape, h.output, h.size, h.block⟩
theorem grownBy_drewN {w w' : World} {r : Option Nat} (h : w.grownBy w' r) (n : Nat) : w.grownBy (w'.drewN n) r := ⟨h.os, h.tape, h.output, h.size, h.block⟩

set_option maxRecDepth 100000 in
set_option maxHeartbeats 6400000 in
theorem iAccepts_all (fs : List Fn) (ap : Option Addr) (fn capp : Nat) (hfn : fn ≤ fs.length) (hl : fs.length ≤ 1048576) :
    ∀ (t : Nat) (ks : Fo), ks.size < t → ∀ (k n p c : Int) (a : Option Addr) (cap : Nat) (vars d x : Int) (g : Nat) (w : World),
    Pat w 0 g fs ap → Fat w 0 g ks a → R4 k n p c → ks.size ≤ 1048576 → g < w.heap.size → w.cell? ⟨g, 0, none⟩ = some (.int .i64 x) → w.frozen? ⟨g, 0, none⟩ = false → 0 ≤ x → x ≤ 400 → 0 ≤ d → d ≤ 60 → (0 ≤ vars ∧ vars + (ks.size : Int) ≤ 2097152) →
    Calls Tryz.prog 132 #[.agg #[.slice ap fn capp, .int .i64 vars], .agg #[.int .i64 k, .int .i64 n, .int .i64 p, .int .i64 c, .slice a ks.len cap], .int .i64 d, .pointer (some ⟨g, 0, none⟩)] w
      (AccRes (accB fs fn vars d x k n p c ks) (x - ((ks.size : Int) + 1)) g w) := by
  intro t
  induction t with
  | zero => intro f hf; omega
  | succ t ih =>
    intro ks hks k n p c a cap vars d x g w hP hF hR hsz hg hx hfz hx0 hx1 hd0 hd1 hv
    have hll := Fo.len_le ks
    obtain ⟨w0, hw0⟩ : ∃ w0, w0 = ((w.setCell ⟨g, 0, none⟩ (.int .i64 (x - 1))).alloc (.cells #[.slice ap fn capp, .int .i64 vars] 198)).alloc (.cells #[.int .i64 k, .int .i64 n, .int .i64 p, .int .i64 c, .slice a ks.len cap] 137) := ⟨_, rfl⟩
    have z0 : w0.heap.size = w.heap.size + 2 := by rw [hw0]; simp
    have q0 : w0.cell? ⟨g, 0, none⟩ = some (.int .i64 (x - 1)) := by
      rw [hw0]; simp [go_sem, hg, Nat.lt_succ_of_lt, hx]
    have qz : w0.frozen? ⟨g, 0, none⟩ = false := by
      rw [hw0]; simp [go_sem, hg, hfz]
    have s0 : w0.cell? ⟨w.heap.size, 0, none⟩ = some (.slice ap fn capp) := by rw [hw0]; simp [go_sem]
    have s1 : w0.cell? ⟨w.heap.size, 1, none⟩ = some (.int .i64 vars) := by rw [hw0]; simp [go_sem]
    have e0 : w0.cell? ⟨w.heap.size + 1, 0, none⟩ = some (.int .i64 k) := by rw [hw0]; simp [go_sem]
    have e1 : w0.cell? ⟨w.heap.size + 1, 1, none⟩ = some (.int .i64 n) := by rw [hw0]; simp [go_sem]
    have e2 : w0.cell? ⟨w.heap.size + 1, 2, none⟩ = some (.int .i64 p) := by rw [hw0]; simp [go_sem]
    have e3 : w0.cell? ⟨w.heap.size + 1, 3, none⟩ = some (.int .i64 c) := by rw [hw0]; simp [go_sem]
    have e4 : w0.cell? ⟨w.heap.size + 1, 4, none⟩ = some (.slice a ks.len cap) := by rw [hw0]; simp [go_sem]
    have hgr : w.grownBy w0 (some g) := by
      rw [hw0]
      exact ⟨rfl, rfl, rfl, by simp; omega, fun j hj hne => by
        rw [Below.heap_alloc _ _ j (by simp; omega), Below.heap_alloc _ _ j (by simp; omega), Below.heap_setCell _ _ _ _ (by show j ≠ g; intro e; exact hne (by rw [e]))]⟩
    have hP0 : Pat w0 0 g fs ap := hP.agree (fun j _ hj => hgr.block j (by omega) (by simp; omega))
    have hF0 : Fat w0 0 g ks a := Fat.agree (fun j _ hj => hgr.block j (by omega) (by simp; omega)) hF
    clear hP hF
    by_cases h0 : d = 0
    · have HF := Lib.hid (accB_d0 fs fn vars d x k n p c ks (by omega))
      have hdd : (d == 0) = true := eq_beq h0
      clear h0 ih
      go_enter Tryz.func132, Tryz.ntmps132
      go_wp2_with fail
      rw [← hw0]
      clear hw0
      go_quiet (fail)
      go_wp2_with fail
      go_ret
      exact ⟨ret_bool HF.out.symm, (fun h => by rw [HF.out] at h; cases h), qz, grownBy_drewN hgr _⟩
    · have hdd : (d == 0) = false := ne_beq h0
      by_cases h1 : x - 1 < 0
      · have HF := Lib.hid (accB_x0 fs fn vars d x k n p c ks (by omega))
        have hxd : decide (x - 1 < 0) = true := decide_eq_true h1
        clear h0 ih h1
        go_enter Tryz.func132, Tryz.ntmps132
        go_wp2_with fail
        rw [← hw0]
        clear hw0
        go_quiet (fail)
        go_wp2_with fail
        go_ret
        exact ⟨ret_bool HF.out.symm, (fun h => by rw [HF.out] at h; cases h), qz, grownBy_drewN hgr _⟩
      · have hxd : decide (x - 1 < 0) = false := decide_eq_false h1
        have hxx : x - 1 ≤ 399 := by omega
        have hxx0 : 0 ≤ x - 1 := by omega
        have hd1 : 1 ≤ d := by omega
        have HE := Lib.hid (accB_step fs fn vars d x k n p c ks)
        have HFo := fun W => Lib.hid (iForm k n p c ks.len a cap W (by omega))
        have HNB := Lib.hid (formAdm fs vars fn k n p c ks.len)
        have hzg : g < w0.heap.size := by omega
        have hz1 : w.heap.size < w0.heap.size := by omega
        have hz2 : w.heap.size + 1 < w0.heap.size := by omega
        cases hform : formB k n p c ks.len with
        | false =>
          have HF : Hid (accB fs fn vars d x k n p c ks = false) := by
            show _ = _
            have e := HNB.out
            rw [hform, Bool.false_and] at e
            rw [HE.out, ← e, Bool.false_and]
          rw [hform] at HFo
          clear HE HNB hform ih h0 h1
          go_enter Tryz.func132, Tryz.ntmps132
          go_wp2_with fail
          rw [← hw0]
          clear hw0
          go_region_with (go_at_call 147; refine (HFo _).out.mono ?_; rintro e w1 ⟨rfl, hbF⟩)
          all_goals go_wp2_with fail
          all_goals go_ret
          all_goals have hbF2 : Below w0.heap.size w0 w1 := ⟨hbF.os, hbF.tape, hbF.output, hbF.size, hbF.block⟩
          all_goals refine ⟨ret_bool HF.out.symm, (fun h => by rw [HF.out] at h; cases h), ?_, ?_⟩
          all_goals first
            | exact (hbF2.frozen (p := ⟨g, 0, none⟩) hzg).trans qz
            | exact grownBy_below hgr hbF2
            | exact grownBy_drewN (grownBy_below hgr hbF2) _
          all_goals trace_state
          all_goals sorry
        | true =>
          have HF : Hid (accB fs fn vars d x k n p c ks = (admB fs vars fn k n p c ks.len && accF fs fn vars k 0 (d - 1) (x - 1) ks)) := by
            show _ = _
            have e := HNB.out
            rw [hform, Bool.true_and] at e
            rw [HE.out, ← e]
          rw [hform] at HFo
          have hform2 : (k = 7 → 1 ≤ ks.len) ∧ (k = 8 → 3 ≤ ks.len) ∧ (k = 9 → 2 ≤ ks.len) ∧ (1 ≤ k ∧ k ≤ 11) := by
            refine ⟨?_, ?_, ?_, ?_⟩
            · rintro rfl; simp [formB, innerB] at hform; omega
            · rintro rfl; simp [formB, innerB] at hform; omega
            · rintro rfl; simp [formB, innerB] at hform; omega
            · rcases kind_all k with h | h | h | h | h | h | h | h | h | h | h | ⟨g1, g2, g3, g4, g5, g6, g7, g8, g9, g10, g11⟩
              iterate 11
                · omega
              · simp [formB, g1, g2, g3, g4, g5, g6, g7, g8, g9, g10, g11] at hform
          have HNo := fun (W : World) (hW : Below w0.heap.size w0 W) => Lib.hid (iNode k n p c ks a cap W ((hF0.mono (Nat.le_refl _) (Nat.le_of_lt hzg)).below hW |>.mono (Nat.le_refl _) hW.size) (by omega) hform2.1 hform2.2.1 hform2.2.2.1 hform2.2.2.2)
          have HAd := fun (v : Value) (hv : NodeIs k n p c ks.len a cap v) (W : World) (hW : Below w0.heap.size w0 W) => Lib.hid (iAdmits fs ap fn capp vars k n p c ks.len a cap v W hv ((hP0.mono (Nat.le_refl _) (Nat.le_of_lt hzg)).below hW |>.mono (Nat.le_refl _) hW.size) hfn hl (by omega))
          clear HE HNB hform hform2 h0 h1
          cases hadm : admB fs vars fn k n p c ks.len with
          | false =>
            have HF2 : Hid (accB fs fn vars d x k n p c ks = false) := by show _ = _; rw [HF.out, hadm, Bool.false_and]
            rw [hadm] at HAd
            clear HF hadm ih
            go_enter Tryz.func132, Tryz.ntmps132
            go_wp2_with fail
            rw [← hw0]
            clear hw0
            have hbI : Below w0.heap.size w0 w0 := Below.refl _ _
            go_region_held3 (fun w' => w'.cell? ⟨g, 0, none⟩ = some (.int .i64 (x - 1)) ∧ w'.cell? ⟨w.heap.size, 0, none⟩ = some (.slice ap fn capp) ∧ w'.cell? ⟨w.heap.size, 1, none⟩ = some (.int .i64 vars) ∧
                w'.cell? ⟨w.heap.size + 1, 0, none⟩ = some (.int .i64 k) ∧ w'.cell? ⟨w.heap.size + 1, 1, none⟩ = some (.int .i64 n) ∧ w'.cell? ⟨w.heap.size + 1, 2, none⟩ = some (.int .i64 p) ∧ w'.cell? ⟨w.heap.size + 1, 3, none⟩ = some (.int .i64 c) ∧ w'.cell? ⟨w.heap.size + 1, 4, none⟩ = some (.slice a ks.len cap))
              (first
                | exact ⟨q0, s0, s1, e0, e1, e2, e3, e4⟩
                | exact ⟨(hbA2.cell (p := ⟨g, 0, none⟩) hzg).trans q0, (hbA2.cell (p := ⟨w.heap.size, 0, none⟩) hz1).trans s0, (hbA2.cell (p := ⟨w.heap.size, 1, none⟩) hz1).trans s1, (hbA2.cell (p := ⟨w.heap.size + 1, 0, none⟩) hz2).trans e0, (hbA2.cell (p := ⟨w.heap.size + 1, 1, none⟩) hz2).trans e1, (hbA2.cell (p := ⟨w.heap.size + 1, 2, none⟩) hz2).trans e2, (hbA2.cell (p := ⟨w.heap.size + 1, 3, none⟩) hz2).trans e3, (hbA2.cell (p := ⟨w.heap.size + 1, 4, none⟩) hz2).trans e4⟩
                | exact ⟨(hbN2.cell (p := ⟨g, 0, none⟩) hzg).trans q0, (hbN2.cell (p := ⟨w.heap.size, 0, none⟩) hz1).trans s0, (hbN2.cell (p := ⟨w.heap.size, 1, none⟩) hz1).trans s1, (hbN2.cell (p := ⟨w.heap.size + 1, 0, none⟩) hz2).trans e0, (hbN2.cell (p := ⟨w.heap.size + 1, 1, none⟩) hz2).trans e1, (hbN2.cell (p := ⟨w.heap.size + 1, 2, none⟩) hz2).trans e2, (hbN2.cell (p := ⟨w.heap.size + 1, 3, none⟩) hz2).trans e3, (hbN2.cell (p := ⟨w.heap.size + 1, 4, none⟩) hz2).trans e4⟩
                | exact ⟨(hbF2.cell (p := ⟨g, 0, none⟩) hzg).trans q0, (hbF2.cell (p := ⟨w.heap.size, 0, none⟩) hz1).trans s0, (hbF2.cell (p := ⟨w.heap.size, 1, none⟩) hz1).trans s1, (hbF2.cell (p := ⟨w.heap.size + 1, 0, none⟩) hz2).trans e0, (hbF2.cell (p := ⟨w.heap.size + 1, 1, none⟩) hz2).trans e1, (hbF2.cell (p := ⟨w.heap.size + 1, 2, none⟩) hz2).trans e2, (hbF2.cell (p := ⟨w.heap.size + 1, 3, none⟩) hz2).trans e3, (hbF2.cell (p := ⟨w.heap.size + 1, 4, none⟩) hz2).trans e4⟩
                | go_keep)
              (first
                | (go_at_call 147; refine (HFo _).out.mono ?_; rintro e w1 ⟨rfl, hbF⟩; have hbF2 : Below w0.heap.size w0 w1 := ⟨hbF.os, hbF.tape, hbF.output, hbF.size, hbF.block⟩)
                | (go_at_call 114; refine (HNo _ hbF2).out.mono ?_; rintro e w2 ⟨v, rfl, hvv, hbN⟩; have hbN2 : Below w0.heap.size w0 w2 := hbF2.trans (hbN.mono hbF2.size))
                | (go_at_call 148; refine (HAd _ hvv _ hbN2).out.mono ?_; rintro e w3 ⟨rfl, hbA⟩; have hbA2 : Below w0.heap.size w0 w3 := hbN2.trans (hbA.mono hbN2.size)))
            go_wp2_with fail
            go_ret
            exact ⟨ret_bool HF2.out.symm, (fun h => by rw [HF2.out] at h; cases h), (hbA2.frozen (p := ⟨g, 0, none⟩) hzg).trans qz, grownBy_below hgr hbA2⟩
          | true =>
            have HF2 : Hid (accB fs fn vars d x k n p c ks = accF fs fn vars k 0 (d - 1) (x - 1) (Fo.drop 0 ks)) := by show _ = _; rw [HF.out, hadm, Bool.true_and, Fo.drop_zero]
            have HY0 : Hid (x - 1 = x - ((ks.size : Int) + 1) + ((Fo.drop 0 ks).size : Int)) := by show _ = _; rw [Fo.drop_zero]; omega
            rw [hadm] at HAd
            clear HF hadm
            go_enter Tryz.func132, Tryz.ntmps132
            go_wp2_with fail
            rw [← hw0]
            clear hw0
            have hbI : Below w0.heap.size w0 w0 := Below.refl _ _
            go_region_held3 (fun w' => w'.cell? ⟨g, 0, none⟩ = some (.int .i64 (x - 1)) ∧ w'.cell? ⟨w.heap.size, 0, none⟩ = some (.slice ap fn capp) ∧ w'.cell? ⟨w.heap.size, 1, none⟩ = some (.int .i64 vars) ∧
                w'.cell? ⟨w.heap.size + 1, 0, none⟩ = some (.int .i64 k) ∧ w'.cell? ⟨w.heap.size + 1, 1, none⟩ = some (.int .i64 n) ∧ w'.cell? ⟨w.heap.size + 1, 2, none⟩ = some (.int .i64 p) ∧ w'.cell? ⟨w.heap.size + 1, 3, none⟩ = some (.int .i64 c) ∧ w'.cell? ⟨w.heap.size + 1, 4, none⟩ = some (.slice a ks.len cap))
              (first
                | exact ⟨q0, s0, s1, e0, e1, e2, e3, e4⟩
                | exact ⟨(hbA2.cell (p := ⟨g, 0, none⟩) hzg).trans q0, (hbA2.cell (p := ⟨w.heap.size, 0, none⟩) hz1).trans s0, (hbA2.cell (p := ⟨w.heap.size, 1, none⟩) hz1).trans s1, (hbA2.cell (p := ⟨w.heap.size + 1, 0, none⟩) hz2).trans e0, (hbA2.cell (p := ⟨w.heap.size + 1, 1, none⟩) hz2).trans e1, (hbA2.cell (p := ⟨w.heap.size + 1, 2, none⟩) hz2).trans e2, (hbA2.cell (p := ⟨w.heap.size + 1, 3, none⟩) hz2).trans e3, (hbA2.cell (p := ⟨w.heap.size + 1, 4, none⟩) hz2).trans e4⟩
                | exact ⟨(hbN2.cell (p := ⟨g, 0, none⟩) hzg).trans q0, (hbN2.cell (p := ⟨w.heap.size, 0, none⟩) hz1).trans s0, (hbN2.cell (p := ⟨w.heap.size, 1, none⟩) hz1).trans s1, (hbN2.cell (p := ⟨w.heap.size + 1, 0, none⟩) hz2).trans e0, (hbN2.cell (p := ⟨w.heap.size + 1, 1, none⟩) hz2).trans e1, (hbN2.cell (p := ⟨w.heap.size + 1, 2, none⟩) hz2).trans e2, (hbN2.cell (p := ⟨w.heap.size + 1, 3, none⟩) hz2).trans e3, (hbN2.cell (p := ⟨w.heap.size + 1, 4, none⟩) hz2).trans e4⟩
                | exact ⟨(hbF2.cell (p := ⟨g, 0, none⟩) hzg).trans q0, (hbF2.cell (p := ⟨w.heap.size, 0, none⟩) hz1).trans s0, (hbF2.cell (p := ⟨w.heap.size, 1, none⟩) hz1).trans s1, (hbF2.cell (p := ⟨w.heap.size + 1, 0, none⟩) hz2).trans e0, (hbF2.cell (p := ⟨w.heap.size + 1, 1, none⟩) hz2).trans e1, (hbF2.cell (p := ⟨w.heap.size + 1, 2, none⟩) hz2).trans e2, (hbF2.cell (p := ⟨w.heap.size + 1, 3, none⟩) hz2).trans e3, (hbF2.cell (p := ⟨w.heap.size + 1, 4, none⟩) hz2).trans e4⟩
                | go_keep)
              (first
                | (go_at_call 147; refine (HFo _).out.mono ?_; rintro e w1 ⟨rfl, hbF⟩; have hbF2 : Below w0.heap.size w0 w1 := ⟨hbF.os, hbF.tape, hbF.output, hbF.size, hbF.block⟩)
                | (go_at_call 114; refine (HNo _ hbF2).out.mono ?_; rintro e w2 ⟨v, rfl, hvv, hbN⟩; have hbN2 : Below w0.heap.size w0 w2 := hbF2.trans (hbN.mono hbF2.size))
                | (go_at_call 148; refine (HAd _ hvv _ hbN2).out.mono ?_; rintro e w3 ⟨rfl, hbA⟩; have hbA2 : Below w0.heap.size w0 w3 := hbN2.trans (hbA.mono hbN2.size)))
            have hq3 := (hbA2.cell (p := ⟨g, 0, none⟩) hzg).trans q0
            have hz3 := (hbA2.frozen (p := ⟨g, 0, none⟩) hzg).trans qz
            have hg3 : w0.grownBy w3 (some g) := grownBy_below (World.grownBy.refl _ _) hbA2
            go_wp2_with fail
            go_loopw [40] (fun q wr => ∃ (i : Nat) (y : Int), i ≤ ks.len ∧ q = .int .i64 i ∧ 0 ≤ y ∧ y ≤ 399 ∧ Hid (accB fs fn vars d x k n p c ks = accF fs fn vars k i (d - 1) y (Fo.drop i ks)) ∧ Hid (y = x - ((ks.size : Int) + 1) + ((Fo.drop i ks).size : Int)) ∧
                wr.cell? ⟨g, 0, none⟩ = some (.int .i64 y) ∧ wr.frozen? ⟨g, 0, none⟩ = false ∧ w0.grownBy wr (some g)) (fun q _ => ks.len - (intOf q).toNat)
            case atStart => exact ⟨0, x - 1, Nat.zero_le _, rfl, hxx0, hxx, HF2, HY0, hq3, hz3, hg3⟩
            case round =>
              obtain ⟨i, y, hi, rfl, hy0, hy1, HX, HY, hq, hz, hgw⟩ := hrel
              clear HF2 HY0 hq3 hz3 hg3 HNo HAd HFo hbI
              have hws := hgw.size
              have t0 := hgw.cell s0 (by simp; omega)
              have t1 := hgw.cell s1 (by simp; omega)
              have r0 := hgw.cell e0 (by simp; omega)
              have r1 := hgw.cell e1 (by simp; omega)
              have r2 := hgw.cell e2 (by simp; omega)
              have r3 := hgw.cell e3 (by simp; omega)
              have r4 := hgw.cell e4 (by simp; omega)
              clear s0 s1 e0 e1 e2 e3 e4 q0 qz hx hfz
              by_cases hlt : i < ks.len
              · have hii : (i : Int) < (ks.len : Int) := by omega
                have hFr : Fat wr 0 g ks a := Fat.agree (fun j _ hj => hgw.block j (by omega) (by simp; omega)) hF0
                have hPr : Pat wr 0 g fs ap := hP0.agree (fun j _ hj => hgw.block j (by omega) (by simp; omega))
                obtain ⟨b1, o1, rfl, hbB⟩ := hFr.blk (by omega)
                obtain ⟨k1, n1, p1, c1, kk, a2, cap2, hdr, hr, hkl, d0, d1, d2, d3, d4, hk'⟩ := hFr.node hlt
                have hlt' := Fo.kid_lt hdr
                have hmo : 0 ≤ more k i ∧ more k i ≤ 1 := by unfold more; split <;> omega
                have HC := fun (W : World) (hW : Below wr.heap.size wr W) => Lib.hid (ih kk (by omega) k1 n1 p1 c1 a2 cap2 (vars + more k i) (d - 1) y g W (hPr.agree (fun j _ hj => hW.block j (by omega))) (Fat.agree (fun j _ hj => hW.block j (by omega)) hk') hr (by omega)
                  (by have := hW.size; omega) ((hW.cell (p := ⟨g, 0, none⟩) (by show g < _; omega)).trans hq) ((hW.frozen (p := ⟨g, 0, none⟩) (by show g < _; omega)).trans hz) hy0 (by omega) (by omega) (by omega) ⟨by omega, by omega⟩)
                have HU : Hid (accB fs fn vars d x k n p c ks = (accB fs fn (vars + more k i) (d - 1) y k1 n1 p1 c1 kk && accF fs fn vars k (i + 1) (d - 1) (y - kk.size - 1) (Fo.drop (i + 1) ks))) := by
                  show _ = _
                  rw [HX.out, hdr, accF_cons]
                have HZ := Lib.hid (Fo.size_cons hdr)
                obtain ⟨wk, hwk⟩ : ∃ wk, wk = wr.alloc (.cells #[.int .i64 k1, .int .i64 n1, .int .i64 p1, .int .i64 c1, .slice a2 kk.len cap2] 137) := ⟨_, rfl⟩
                have zk : wk.heap.size = wr.heap.size + 1 := by rw [hwk]; simp
                have hbk : Below wr.heap.size wr wk := by rw [hwk]; exact (Below.refl _ _).alloc (Nat.le_refl _) _
                have b0 : wk.cell? ⟨wr.heap.size, 0, none⟩ = some (.int .i64 k1) := by rw [hwk]; simp [go_sem]
                have b1' : wk.cell? ⟨wr.heap.size, 1, none⟩ = some (.int .i64 n1) := by rw [hwk]; simp [go_sem]
                have b2 : wk.cell? ⟨wr.heap.size, 2, none⟩ = some (.int .i64 p1) := by rw [hwk]; simp [go_sem]
                have b3 : wk.cell? ⟨wr.heap.size, 3, none⟩ = some (.int .i64 c1) := by rw [hwk]; simp [go_sem]
                have b4 : wk.cell? ⟨wr.heap.size, 4, none⟩ = some (.slice a2 kk.len cap2) := by rw [hwk]; simp [go_sem]
                have lt1 : w.heap.size < wr.heap.size := by omega
                have lt2 : w.heap.size + 1 < wr.heap.size := by omega
                have u0 := (hbk.cell (p := ⟨w.heap.size, 0, none⟩) lt1).trans t0
                have u1 := (hbk.cell (p := ⟨w.heap.size, 1, none⟩) lt1).trans t1
                have v0 := (hbk.cell (p := ⟨w.heap.size + 1, 0, none⟩) lt2).trans r0
                have v1 := (hbk.cell (p := ⟨w.heap.size + 1, 1, none⟩) lt2).trans r1
                have v2 := (hbk.cell (p := ⟨w.heap.size + 1, 2, none⟩) lt2).trans r2
                have v3 := (hbk.cell (p := ⟨w.heap.size + 1, 3, none⟩) lt2).trans r3
                have v4 := (hbk.cell (p := ⟨w.heap.size + 1, 4, none⟩) lt2).trans r4
                have HMo := fun W => Lib.hid (iMore k n p c ks.len (some ⟨b1, o1, none⟩) cap i W)
                have lk0 : wr.heap.size < wk.heap.size := by omega
                have lk1 : w.heap.size < wk.heap.size := by omega
                have lk2 : w.heap.size + 1 < wk.heap.size := by omega
                clear hFr hPr hk' hF0 hP0 ih hdr hlt' hkl HX t0 t1 r0 r1 r2 r3 r4
                go_wp2_with fail
                rw [← hwk]
                clear hwk d0 d1 d2 d3 d4
                have hwv : IntKind.i64.wrap (vars + more k i) = vars + more k i := IntWalk.i64_in _ (by omega)
                go_region_held3 (fun w' => w'.cell? ⟨w.heap.size, 0, none⟩ = some (.slice ap fn capp) ∧ w'.cell? ⟨w.heap.size, 1, none⟩ = some (.int .i64 vars) ∧
                    w'.cell? ⟨w.heap.size + 1, 0, none⟩ = some (.int .i64 k) ∧ w'.cell? ⟨w.heap.size + 1, 1, none⟩ = some (.int .i64 n) ∧ w'.cell? ⟨w.heap.size + 1, 2, none⟩ = some (.int .i64 p) ∧ w'.cell? ⟨w.heap.size + 1, 3, none⟩ = some (.int .i64 c) ∧ w'.cell? ⟨w.heap.size + 1, 4, none⟩ = some (.slice (some ⟨b1, o1, none⟩) ks.len cap))
                  (first
                    | exact ⟨u0, u1, v0, v1, v2, v3, v4⟩
                    | go_keep)
                  (first
                    | (go_at_call 149; refine (HMo _).out.mono ?_; rintro e w5 ⟨rfl, rfl⟩))
                all_goals go_wp2_with fail
                all_goals refine (HC _ (hbk.trans ((below_drew (((Below.refl _ _).alloc (Nat.le_refl _) _).alloc (by simp) _)).mono hbk.size))).out.mono ?_
                all_goals rintro e w7 ⟨rfl, hc7, hf7, hg7⟩
                all_goals have hgx : w0.grownBy w7 (some g) := grownBy_trans (grownBy_below hgw (hbk.trans ((below_drew (((Below.refl _ _).alloc (Nat.le_refl _) _).alloc (by simp) _)).mono hbk.size))) hg7
                all_goals clear HC hg7 HMo b0 b1' b2 b3 b4 u0 u1 v0 v1 v2 v3 v4 hbk zk
                all_goals cases hb : accB fs fn (vars + more k i) (d - 1) y k1 n1 p1 c1 kk with
                  | true =>
                    have hsz1 := accB_size hb
                    have hc8 := hc7 hb
                    have HX2 : Hid (accB fs fn vars d x k n p c ks = accF fs fn vars k (i + 1) (d - 1) (y - kk.size - 1) (Fo.drop (i + 1) ks)) := by show _ = _; rw [HU.out, hb, Bool.true_and]
                    have HY2 : Hid (y - (kk.size : Int) - 1 = x - ((ks.size : Int) + 1) + ((Fo.drop (i + 1) ks).size : Int)) := by
                      show _ = _
                      have e1 := HY.out
                      have e2 := HZ.out
                      omega
                    have hy2 : 0 ≤ y - (kk.size : Int) - 1 := by omega
                    have hy3 : y - (kk.size : Int) - 1 ≤ 399 := by omega
                    have e3 : y - ((kk.size : Int) + 1) = y - (kk.size : Int) - 1 := by omega
                    rw [e3] at hc8
                    clear hb hc7 HU HY HZ e3
                    generalize y - (kk.size : Int) - 1 = z at hc8 HX2 HY2 hy2 hy3
                    go_wp2_with fail
                    go_roundw
                    case rel => exact ⟨i + 1, z, by omega, by go_num, hy2, hy3, HX2, HY2, hc8, hf7, hgx⟩
                    case measure => simp [intOf]; omega
                  | false =>
                    have HX2 : Hid (accB fs fn vars d x k n p c ks = false) := by show _ = _; rw [HU.out, hb, Bool.false_and]
                    clear hb hc7 HU HY HZ
                    go_wp2_with fail
                    go_ret
                    exact ⟨ret_bool HX2.out.symm, (fun h => by rw [HX2.out] at h; cases h), hf7, grownBy_trans hgr hgx⟩
              · have hii : ¬ (i : Int) < (ks.len : Int) := by omega
                have HX2 : Hid (accB fs fn vars d x k n p c ks = true) := by
                  show _ = _
                  rw [HX.out, Fo.drop_end (by omega)]; exact accF_nil _ _ _ _ _ _ _ (by omega) hy0
                have HY2 : Hid (y = x - ((ks.size : Int) + 1)) := by
                  show _ = _
                  have e1 := HY.out
                  rw [Fo.drop_end (by omega)] at e1
                  rw [e1]; show _ + (0 : Int) = _; omega
                clear HX HY hF0 hP0 ih t0 t1 r0 r1 r2 r3 r4
                go_wp2_with fail
                go_ret
                exact ⟨ret_bool HX2.out.symm, (fun _ => by rw [← HY2.out]; exact hq), hz, grownBy_trans hgr hgw⟩

end Go.Proofs.YtoedccgiahegnaaGreat
