/- What a schedule has used, by the program: three sums. -/
import Derived.Test.YtolpbflalbfhjaaCkv
namespace Go.Proofs.Ytolpbflalbfhjaa
open Go.RowKit
set_option linter.unusedVariables false

theorem mul_bd {x y : Int} (hx : 0 ≤ x ∧ x ≤ 400) (hy : 0 ≤ y ∧ y ≤ 1000) : 0 ≤ x * y ∧ x * y ≤ 400000 :=
  ⟨Int.mul_nonneg hx.1 hy.1, Int.le_trans (Int.mul_le_mul hx.2 hy.2 hy.1 (by omega)) (by omega)⟩
theorem dotK_bd {l w : List Int} (hl : ∀ k, 0 ≤ l.getD k 0 ∧ l.getD k 0 ≤ 400) (hw : ∀ k, 0 ≤ w.getD k 0 ∧ w.getD k 0 ≤ 1000) : ∀ k : Nat, 0 ≤ dotK l w k ∧ dotK l w k ≤ 400000 * k
  | 0 => by rw [dotK]; omega
  | k + 1 => by have h1 := dotK_bd hl hw k; have h2 := mul_bd (hl k) (hw k); rw [dotK]; omega
theorem sumK_bd {l : List Int} (hl : ∀ k, 0 ≤ l.getD k 0 ∧ l.getD k 0 ≤ 400) : ∀ k : Nat, 0 ≤ sumK l k ∧ sumK l k ≤ 400 * k
  | 0 => by rw [sumK]; omega
  | k + 1 => by have h1 := sumK_bd hl k; have h2 := hl k; rw [sumK]; omega
theorem cntA_bd (l : List Ac) (kd : Int) : ∀ k : Nat, 0 ≤ cntA l kd k ∧ cntA l kd k ≤ k
  | 0 => by rw [cntA]; omega
  | k + 1 => by have h1 := cntA_bd l kd k; rw [cntA]; split <;> omega
theorem cntK_bd (l : List Int) : ∀ k : Nat, 0 ≤ cntK l k ∧ cntK l k ≤ k
  | 0 => by rw [cntK]; omega
  | k + 1 => by have h1 := cntK_bd l k; rw [cntK]; split <;> omega

set_option maxRecDepth 100000 in
set_option maxHeartbeats 6400000 in
theorem iUsage (s : List Int) (adv : List Int) (g h B : Nat) (hm : s.length ≤ 8) (hn : adv.length ≤ 40) (hab : ∀ k, 0 ≤ adv.getD k 0 ∧ adv.getD k 0 ≤ 400) (l : List Ac) (hl : l.length ≤ 400) (wt : List Int) (hwl : wt.length = adv.length) (hwb : ∀ k, 0 ≤ wt.getD k 0 ∧ wt.getD k 0 ≤ 1000)
    (a : Option Addr) (cap : Nat) (aw : Option Addr) (capw : Nat) (w : World) (hc2 : w.cell? ⟨B, 2, none⟩ = some (.slice (some ⟨g, 0, none⟩) s.length s.length)) (hc3 : w.cell? ⟨B, 3, none⟩ = some (.slice (some ⟨h, 0, none⟩) adv.length adv.length)) (hB : B < w.heap.size)
    (hS : At w (some ⟨g, 0, none⟩) s) (hA : At w (some ⟨h, 0, none⟩) adv) (hW : At w aw wt) (hP : AcAt w 0 w.heap.size l a) :
    Calls Try.prog 66 #[.pointer (some ⟨B, 0, none⟩), .slice a l.length cap, .slice aw wt.length capw] w fun e w' =>
      e = .returned (usv (dotK adv wt adv.length) (sumK adv adv.length) (cntA l 2 l.length) (cntA l 3 l.length) (cntK s s.length)) ∧ Below w.heap.size w w' := by
  have HWB := Lib.hid hwb
  have HAB := Lib.hid hab
  have HWL := Lib.hid hwl
  have hU0 := uat_new (w.alloc (.cells #[.int .i64 0, .int .i64 0, .int .i64 0, .int .i64 0, .int .i64 0] 43)) 43
  have hR0 := uat_new w 43
  clear hab hwb hwl
  go_enter Try.func66, Try.ntmps66
  go_wp2_with fail
  obtain ⟨w0, hw0⟩ : ∃ w0, w0 = (w.alloc (.cells #[.int .i64 0, .int .i64 0, .int .i64 0, .int .i64 0, .int .i64 0] 43)).alloc (.cells #[.int .i64 0, .int .i64 0, .int .i64 0, .int .i64 0, .int .i64 0] 43) := ⟨_, rfl⟩
  have A0 : Below w.heap.size w w0 := by rw [hw0]; exact ((Below.refl _ _).alloc (Nat.le_refl _) _).alloc (by simp) _
  have z0 : w0.heap.size = w.heap.size + 1 + 1 := by rw [hw0]; simp
  have HU := Lib.hid (show UAt w0 (w.heap.size + 1) (dotK adv wt 0) (sumK adv 0) 0 0 0 by
    rw [hw0]; have := hU0; rwa [show (w.alloc (.cells #[.int .i64 0, .int .i64 0, .int .i64 0, .int .i64 0, .int .i64 0] 43)).heap.size = w.heap.size + 1 by simp] at this)
  have HZ := Lib.hid (show UAt w0 w.heap.size 0 0 0 0 0 by
    rw [hw0]; exact hR0.next ((Below.refl _ _).alloc (Nat.le_refl _) _))
  try rw [← hw0]
  clear hw0 hU0 hR0
  have HB0 := Lib.hid A0
  go_loopw [19] (fun q wr => ∃ k : Nat, k ≤ adv.length ∧ q = .int .i64 k ∧ Hid (UAt wr (w.heap.size + 1) (dotK adv wt k) (sumK adv k) 0 0 0) ∧ Hid (UAt wr w.heap.size 0 0 0 0 0) ∧ Hid (Below w.heap.size w wr)) (fun q _ => adv.length - (intOf q).toNat)
  case atStart => exact ⟨0, Nat.zero_le _, rfl, HU.out, HZ.out, HB0.out⟩
  case round =>
    obtain ⟨k, hk, rfl, HU, HZ, hw⟩ := hrel
    have hsz := hw.out.size
    by_cases hlt : k < adv.length
    · have hii : (k : Int) < (adv.length : Int) := by omega
      have hij : (k : Int) < (wt.length : Int) := by have := HWL.out; omega
      obtain ⟨bw, ow, rfl, hbw, hcw⟩ := hW.resolve_left (by intro e; have := HWL.out; rw [e] at this; simp at this; omega)
      obtain ⟨bh, oh, ebh, hbh, hch⟩ := hA.resolve_left (by intro e; rw [e] at hlt; simp at hlt)
      simp only [Option.some.injEq, Addr.mk.injEq, and_true] at ebh
      obtain ⟨e1, e2⟩ := ebh
      subst e1; subst e2
      have ha := (hw.out.cell (p := ⟨h, 0 + k, none⟩) hbh).trans (hch k hlt)
      rw [Nat.zero_add] at ha
      have hv := (hw.out.cell (p := ⟨bw, ow + k, none⟩) hbw).trans (hcw k (by have := HWL.out; omega))
      have hkN : (k : Int) ≤ 40 := by omega
      have hab := HAB.out k
      have hwb := HWB.out k
      have hp := mul_bd hab hwb
      have hd := dotK_bd HAB.out HWB.out k
      have hs := sumK_bd HAB.out k
      have KN := fun (j : Nat) => (Kp.of_below (S := fun k => k = w.heap.size + 1) (below_drewN (Below.refl wr.heap.size wr) j)).trans ((Kp.set (S := fun k => k = w.heap.size + 1) (p := ⟨w.heap.size + 1, 0, none⟩) (v := .int .i64 (dotK adv wt k + adv.getD k 0 * wt.getD k 0)) rfl).trans (Kp.set (S := fun k => k = w.heap.size + 1) (p := ⟨w.heap.size + 1, 1, none⟩) (v := .int .i64 (sumK adv k + adv.getD k 0)) rfl))
      have HUn := fun (j : Nat) => Lib.hid (show UAt (((wr.drewN j).setCell ⟨w.heap.size + 1, 0, none⟩ (.int .i64 (dotK adv wt k + adv.getD k 0 * wt.getD k 0))).setCell ⟨w.heap.size + 1, 1, none⟩ (.int .i64 (sumK adv k + adv.getD k 0))) (w.heap.size + 1) (dotK adv wt (k + 1)) (sumK adv (k + 1)) 0 0 0 from
        ((HU.out.next (below_drewN (Below.refl _ _) j)).s0 (dotK adv wt (k + 1))).s1 (sumK adv (k + 1)))
      have HZn := fun (j : Nat) => Lib.hid (HZ.out.keep (KN j) (by omega))
      have HBn := fun (j : Nat) => Lib.hid (hw.out.trans ((KN j).below (L := w.heap.size) hsz (fun k hk => by omega)))
      obtain ⟨p0, p1, _, _, _, f0, f1, _, _, _, ult⟩ := HU.out
      have e3 : IntKind.i64.wrap (adv.getD k 0 * wt.getD k 0) = adv.getD k 0 * wt.getD k 0 := IntWalk.i64_in _ (by omega)
      have e4 : IntKind.i64.wrap (dotK adv wt k + adv.getD k 0 * wt.getD k 0) = dotK adv wt k + adv.getD k 0 * wt.getD k 0 := IntWalk.i64_in _ (by omega)
      have e5 : IntKind.i64.wrap (sumK adv k + adv.getD k 0) = sumK adv k + adv.getD k 0 := IntWalk.i64_in _ (by omega)
      clear HU HZ hw KN hcw hch hab hwb hp hd hs hc2 hc3 hS hA hW hP
      generalize dotK adv wt k = z0 at *
      generalize sumK adv k = z1 at *
      generalize adv.getD k 0 = x at *
      generalize wt.getD k 0 = y at *
      go_wp2_with fail
      go_region
      all_goals
        go_wp2_with fail
        go_roundw
        case rel => exact ⟨k + 1, by omega, by go_num, (HUn _).out, (HZn _).out, (HBn _).out⟩
        case measure => simp [intOf]; omega
    · have hii : ¬ (k : Int) < (adv.length : Int) := by omega
      have hkl : k = adv.length := by omega
      subst hkl
      clear hii hlt
      have HCS := Lib.hid (show Hid (w.cell? ⟨B, 2, none⟩ = some (.slice (some ⟨g, 0, none⟩) s.length s.length)) from hc2)
      clear hA hW hc2 hc3 HAB HWB HB0
      have hii : ¬ ((adv.length : Nat) : Int) < (adv.length : Int) := by omega
      go_wp2_with fail
      go_loopw [42] (fun q wr => ∃ i : Nat, i ≤ l.length ∧ q = .int .i64 i ∧ Hid (UAt wr (w.heap.size + 1) (dotK adv wt adv.length) (sumK adv adv.length) (cntA l 2 i) (cntA l 3 i) 0) ∧ Hid (UAt wr w.heap.size 0 0 0 0 0) ∧ Hid (Below w.heap.size w wr)) (fun q _ => l.length - (intOf q).toNat)
      case atStart => exact ⟨0, Nat.zero_le _, rfl, HU.out, HZ.out, hw.out⟩
      case round =>
        obtain ⟨i, hi, rfl, HU2, HZ2, hw2⟩ := hrel
        clear HU HZ hw hsz hk hii
        have hsz := hw2.out.size
        by_cases hlt : i < l.length
        · have hii : (i : Int) < (l.length : Int) := by omega
          obtain ⟨b, off, rfl, hbB, hcc⟩ := ((hP.below hw2.out).resolve_left (by intro e; rw [e] at hlt; simp at hlt))
          obtain ⟨hr, c0, c1⟩ := hcc i hlt
          have hbB2 := hbB.2
          have hiN : (i : Int) < 9223372036854775806 := by omega
          have hi4 : i ≤ 400 := by omega
          have E2 : Hid (cntA l 2 (i + 1) = cntA l 2 i + if (l.getD i noAc).kind = 2 then 1 else 0) := rfl
          have E3 : Hid (cntA l 3 (i + 1) = cntA l 3 i + if (l.getD i noAc).kind = 3 then 1 else 0) := rfl
          have hb2 := cntA_bd l 2 i
          have hb3 := cntA_bd l 3 i
          have e4 : IntKind.i64.wrap (cntA l 2 i + 1) = cntA l 2 i + 1 := IntWalk.i64_in _ (by omega)
          have e5 : IntKind.i64.wrap (cntA l 3 i + 1) = cntA l 3 i + 1 := IntWalk.i64_in _ (by omega)
          clear hr hcc hb2 hb3 hbB
          have hcc : True := trivial
          generalize (l.getD i noAc).kind = kd at *
          generalize (l.getD i noAc).arg = ag at *
          by_cases hk2 : kd = 2
          · subst hk2
            obtain ⟨w3, hw3⟩ : ∃ w3, w3 = wr.setCell ⟨w.heap.size + 1, 2, none⟩ (.int .i64 (cntA l 2 i + 1)) := ⟨_, rfl⟩
            have K3 : Kp (fun k => k = w.heap.size + 1) wr w3 := by rw [hw3]; exact Kp.set rfl
            have HU3 : UAt w3 (w.heap.size + 1) (dotK adv wt adv.length) (sumK adv adv.length) (cntA l 2 (i + 1)) (cntA l 3 (i + 1)) 0 := by
              rw [hw3, E2.out, E3.out, if_pos rfl, if_neg (by decide)]
              simp only [Int.add_zero]
              exact HU2.out.s2 _
            have HZ3 := HZ2.out.keep K3 (by omega)
            have hw3b := hw2.out.trans (K3.below (by omega) (fun k hk => by show w.heap.size ≤ k; omega))
            obtain ⟨p0, p1, p2, p3, p4, f0, f1, f2, f3, f4, ult⟩ := HU2.out
            obtain ⟨wb, hwb⟩ : ∃ wb, wb = w3.alloc (.cells #[.int .i64 2, .int .i64 ag] 53) := ⟨_, rfl⟩
            have BB : Below w3.heap.size w3 wb := by rw [hwb]; exact (Below.refl _ _).alloc (Nat.le_refl _) _
            have HUt := Lib.hid (HU3.next BB)
            have HZt := Lib.hid (HZ3.next BB)
            have HBt := Lib.hid (hw3b.trans (BB.mono hw3b.size))
            rw [hw3] at hwb
            clear HU2 HZ2 hw2 HU3 HZ3 hw3b BB K3 hw3 E2 E3 hP hcc
            go_wp2_with fail
            rw [← hwb]
            clear hwb p0 p1 p2 p3 p4 f0 f1 f2 f3 f4 ult
            go_wp2_with fail
            go_roundw
            case rel => exact ⟨i + 1, by omega, by go_num, HUt.out, HZt.out, HBt.out⟩
            case measure => simp [intOf]; omega
          · by_cases hk3 : kd = 3
            · subst hk3
              obtain ⟨w3, hw3⟩ : ∃ w3, w3 = wr.setCell ⟨w.heap.size + 1, 3, none⟩ (.int .i64 (cntA l 3 i + 1)) := ⟨_, rfl⟩
              have K3 : Kp (fun k => k = w.heap.size + 1) wr w3 := by rw [hw3]; exact Kp.set rfl
              have HU3 : UAt w3 (w.heap.size + 1) (dotK adv wt adv.length) (sumK adv adv.length) (cntA l 2 (i + 1)) (cntA l 3 (i + 1)) 0 := by
                rw [hw3, E2.out, E3.out, if_neg (by decide), if_pos rfl]
                simp only [Int.add_zero]
                exact HU2.out.s3 _
              have HZ3 := HZ2.out.keep K3 (by omega)
              have hw3b := hw2.out.trans (K3.below (by omega) (fun k hk => by show w.heap.size ≤ k; omega))
              obtain ⟨p0, p1, p2, p3, p4, f0, f1, f2, f3, f4, ult⟩ := HU2.out
              obtain ⟨wb, hwb⟩ : ∃ wb, wb = w3.alloc (.cells #[.int .i64 3, .int .i64 ag] 53) := ⟨_, rfl⟩
              have BB : Below w3.heap.size w3 wb := by rw [hwb]; exact (Below.refl _ _).alloc (Nat.le_refl _) _
              have HUt := Lib.hid (HU3.next BB)
              have HZt := Lib.hid (HZ3.next BB)
              have HBt := Lib.hid (hw3b.trans (BB.mono hw3b.size))
              rw [hw3] at hwb
              clear HU2 HZ2 hw2 HU3 HZ3 hw3b BB K3 hw3 E2 E3 hP hcc
              go_wp2_with fail
              rw [← hwb]
              clear hwb p0 p1 p2 p3 p4 f0 f1 f2 f3 f4 ult
              go_wp2_with fail
              go_roundw
              case rel => exact ⟨i + 1, by omega, by go_num, HUt.out, HZt.out, HBt.out⟩
              case measure => simp [intOf]; omega
            · have hkb2 : (kd == 2) = false := by simpa using hk2
              have hkb3 : (kd == 3) = false := by simpa using hk3
              obtain ⟨w3, hw3⟩ : ∃ w3, w3 = wr := ⟨_, rfl⟩
              have K3 : Kp (fun k => k = w.heap.size + 1) wr w3 := by rw [hw3]; exact Kp.refl _ _
              have HU3 : UAt w3 (w.heap.size + 1) (dotK adv wt adv.length) (sumK adv adv.length) (cntA l 2 (i + 1)) (cntA l 3 (i + 1)) 0 := by
                rw [hw3, E2.out, E3.out, if_neg hk2, if_neg hk3]
                simp only [Int.add_zero]
                exact HU2.out
              have HZ3 := HZ2.out.keep K3 (by omega)
              have hw3b := hw2.out.trans (K3.below (by omega) (fun k hk => by show w.heap.size ≤ k; omega))
              obtain ⟨p0, p1, p2, p3, p4, f0, f1, f2, f3, f4, ult⟩ := HU2.out
              obtain ⟨wb, hwb⟩ : ∃ wb, wb = w3.alloc (.cells #[.int .i64 kd, .int .i64 ag] 53) := ⟨_, rfl⟩
              have BB : Below w3.heap.size w3 wb := by rw [hwb]; exact (Below.refl _ _).alloc (Nat.le_refl _) _
              have HUt := Lib.hid (HU3.next BB)
              have HZt := Lib.hid (HZ3.next BB)
              have HBt := Lib.hid (hw3b.trans (BB.mono hw3b.size))
              rw [hw3] at hwb
              clear HU2 HZ2 hw2 HU3 HZ3 hw3b BB K3 hw3 E2 E3 hP hcc
              go_wp2_with fail
              rw [← hwb]
              clear hwb p0 p1 p2 p3 p4 f0 f1 f2 f3 f4 ult
              go_wp2_with fail
              go_roundw
              case rel => exact ⟨i + 1, by omega, by go_num, HUt.out, HZt.out, HBt.out⟩
              case measure => simp [intOf]; omega
        · have hii : ¬ (i : Int) < (l.length : Int) := by omega
          have hil : i = l.length := by omega
          subst hil
          have hcs := (hw2.out.cell (p := ⟨B, 2, none⟩) hB).trans HCS.out.out
          clear hP hlt
          go_wp2_with fail
          go_loopw [66] (fun q wr => ∃ k : Nat, k ≤ s.length ∧ q = .int .i64 k ∧ Hid (UAt wr (w.heap.size + 1) (dotK adv wt adv.length) (sumK adv adv.length) (cntA l 2 l.length) (cntA l 3 l.length) (cntK s k)) ∧ Hid (UAt wr w.heap.size 0 0 0 0 0) ∧ Hid (Below w.heap.size w wr)) (fun q _ => s.length - (intOf q).toNat)
          case atStart => exact ⟨0, Nat.zero_le _, rfl, HU2.out, HZ2.out, hw2.out⟩
          case round =>
            obtain ⟨k, hk, rfl, HU, HZ, hw⟩ := hrel
            clear HU2 HZ2 hw2 hsz hii hcs
            have hsz := hw.out.size
            by_cases hlt : k < s.length
            · have hii : (k : Int) < (s.length : Int) := by omega
              obtain ⟨bg, og, ebg, hbg, hcg⟩ := hS.resolve_left (by intro e; rw [e] at hlt; simp at hlt)
              simp only [Option.some.injEq, Addr.mk.injEq, and_true] at ebg
              obtain ⟨e1, e2⟩ := ebg
              subst e1; subst e2
              have ha := (hw.out.cell (p := ⟨g, 0 + k, none⟩) hbg).trans (hcg k hlt)
              rw [Nat.zero_add] at ha
              have hkN : (k : Int) ≤ 8 := by omega
              have hb := cntK_bd s k
              have E : Hid (cntK s (k + 1) = cntK s k + if s.getD k 0 = -1 then 0 else 1) := rfl
              have e5 : IntKind.i64.wrap (cntK s k + 1) = cntK s k + 1 := IntWalk.i64_in _ (by omega)
              have KN := (Kp.set (S := fun k => k = w.heap.size + 1) (w := wr) (p := ⟨w.heap.size + 1, 4, none⟩) (v := .int .i64 (cntK s k + 1)) rfl)
              have HZn := Lib.hid (HZ.out.keep KN (by omega))
              have HBn := Lib.hid (hw.out.trans (KN.below (L := w.heap.size) hsz (fun k hk => by omega)))
              obtain ⟨_, _, _, _, p4, _, _, _, _, f4, ult⟩ := HU.out
              clear hcg hb KN hS
              generalize s.getD k 0 = v at *
              by_cases hv : v = -1
              · subst hv
                have HUn : Hid (UAt wr (w.heap.size + 1) (dotK adv wt adv.length) (sumK adv adv.length) (cntA l 2 l.length) (cntA l 3 l.length) (cntK s (k + 1))) := by
                  show UAt _ _ _ _ _ _ _; rw [E.out, if_pos rfl, Int.add_zero]; exact HU.out
                clear HU E HZn HBn
                go_wp2_with fail
                go_roundw
                case rel => exact ⟨k + 1, by omega, by go_num, HUn.out, HZ.out, hw.out⟩
                case measure => simp [intOf]; omega
              · have hvb : (v == -1) = false := by simpa using hv
                have hvc : (v != -1) = true := by simpa using hv
                have HUn : Hid (UAt (wr.setCell ⟨w.heap.size + 1, 4, none⟩ (.int .i64 (cntK s k + 1))) (w.heap.size + 1) (dotK adv wt adv.length) (sumK adv adv.length) (cntA l 2 l.length) (cntA l 3 l.length) (cntK s (k + 1))) := by
                  show UAt _ _ _ _ _ _ _; rw [E.out, if_neg hv]; exact HU.out.s4 _
                clear HU E HZ hw
                go_wp2_with fail
                go_roundw
                case rel => exact ⟨k + 1, by omega, by go_num, HUn.out, HZn.out, HBn.out⟩
                case measure => simp [intOf]; omega
            · have hii : ¬ (k : Int) < (s.length : Int) := by omega
              have hkl : k = s.length := by omega
              subst hkl
              obtain ⟨p0, p1, p2, p3, p4, f0, f1, f2, f3, f4, ult⟩ := HU.out
              obtain ⟨q0, q1, q2, q3, q4, g0, g1, g2, g3, g4, qlt⟩ := HZ.out
              clear hS hlt HU
              go_wp2_with fail
              obtain ⟨r0, r1, r2, r3, r4, _⟩ := put5c_at HZ.out (dotK adv wt adv.length) (sumK adv adv.length) (cntA l 2 l.length) (cntA l 3 l.length) (cntK s s.length)
              change bodyPost _ _ _ _ _ (put5c wr w.heap.size (.int .i64 (dotK adv wt adv.length)) (.int .i64 (sumK adv adv.length)) (.int .i64 (cntA l 2 l.length)) (.int .i64 (cntA l 3 l.length)) (.int .i64 (cntK s s.length)))
              refine bodyPost_ret (v := usv (dotK adv wt adv.length) (sumK adv adv.length) (cntA l 2 l.length) (cntA l 3 l.length) (cntK s s.length)) (by simp [results, Try.results66, go_sem, r0, r1, r2, r3, r4]) rfl ?_
              exact ⟨rfl, hw.out.trans ((put5c_kp _ _ _ _ _ _ _).below (L := w.heap.size) hsz (fun k hk => by omega))⟩

end Go.Proofs.Ytolpbflalbfhjaa
