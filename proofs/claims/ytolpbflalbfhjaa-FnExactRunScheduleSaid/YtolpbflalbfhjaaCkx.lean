/- The run of a schedule: the program and the model. -/
import Derived.Test.YtolpbflalbfhjaaCkw
namespace Go.Proofs.Ytolpbflalbfhjaa
open Go.RowKit
set_option linter.unusedVariables false

/-- the code of a run -/
def CRunSchedule (l : List Ac) (wt : List Int) (s : Int) : Int :=
  if wtB wt = true then (if askC l wt.length s = 0 then (if allB (cs0 wt.length s.toNat) l = true then 0 else 4) else askC l wt.length s) else 1
/-- what a run has used -/
def URun (l : List Ac) (wt : List Int) (s : Int) : Us := if CRunSchedule l wt s = 0 then goU wt (cs0 wt.length s.toNat) us0 l else us0
def RunP (u : Us) (c : Int) (w : World) (e : Ending) (w' : World) : Prop :=
  e = .returned (.tuple #[usv u.cost u.adv u.st u.ld u.into.length, .int .i64 c]) ∧ Below w.heap.size w w'
theorem bes_all {n m : Nat} {wt : List Int} {l : List Ac} (hl : schB l = true) (ha : allB (cs0 n m) l = true) : ∀ k, k ≤ l.length → ∃ s adv u, Fin n m l k s adv ∧ Bes n m wt l k s adv u
  | 0, _ => ⟨_, _, _, fin0 n m l, bes0 n m wt l⟩
  | k + 1, h => by
    obtain ⟨s, adv, u, hF, hB⟩ := bes_all (wt := wt) hl ha k (by omega)
    have hk : k < l.length := by omega
    have hac := schB_ac hl k hk
    have hp := allB_pos ha hF.far hk
    exact ⟨_, _, _, hF.step hk hac hp, hB.step hF hk hac hp⟩
/-- the program's sums are the model's -/
theorem bes_end {n m : Nat} {wt : List Int} {l : List Ac} (hl : schB l = true) (ha : allB (cs0 n m) l = true) :
    dotK (goA (cs0 n m) (List.replicate n 0) l) wt n = (goU wt (cs0 n m) us0 l).cost ∧ sumK (goA (cs0 n m) (List.replicate n 0) l) n = (goU wt (cs0 n m) us0 l).adv ∧
    cntA l 2 l.length = (goU wt (cs0 n m) us0 l).st ∧ cntA l 3 l.length = (goU wt (cs0 n m) us0 l).ld ∧ cntK (goS (cs0 n m) l).2.slots m = (goU wt (cs0 n m) us0 l).into.length := by
  obtain ⟨s, adv, u, hF, hB⟩ := bes_all (wt := wt) hl ha l.length (Nat.le_refl _)
  have e1 : goS (cs0 n m) l = (l.length, s) := hF.far.full rfl
  have e2 : goA (cs0 n m) (List.replicate n 0) l = adv := hF.farA.full rfl
  have e3 : goU wt (cs0 n m) us0 l = u := by rw [hB.far, List.drop_length]; rfl
  rw [e1, e2, e3]
  exact ⟨hB.cost, hB.adv, hB.st, hB.ld, cntK_eq hB.ris hB.bd hB.sl⟩

set_option maxRecDepth 100000 in
set_option maxHeartbeats 3200000 in
theorem sRunSchedule (l : List Ac) (a : Option Addr) (cap : Nat) (wt : List Int) (aw : Option Addr) (capw : Nat) (s : Int) (w : World) (hP : AcAt w 0 w.heap.size l a) (hs : l.length ≤ 1048576) (hW : At w aw wt) (hR : Rng wt) (hs2 : wt.length ≤ 1048576)
    (h0 : -9223372036854775808 ≤ s ∧ s ≤ 9223372036854775807) :
    Calls Try.prog 37 #[.slice a l.length cap, .slice aw wt.length capw, .int .i64 s] w (RunP (URun l wt s) (CRunSchedule l wt s) w) := by
  have z := uat_new w 43
  have b0 : Below w.heap.size w (w.alloc (.cells #[.int .i64 0, .int .i64 0, .int .i64 0, .int .i64 0, .int .i64 0] 43)) := (Below.refl _ _).alloc (Nat.le_refl _) _
  have HL := Lib.hid (sSchedule l a cap _ (hP.next b0) hs)
  have HW := fun (W : World) (h : At W aw wt) => Lib.hid (sWeights wt aw capw W h hs2)
  have HN := fun (W : World) => Lib.hid (sIn s 0 8 W)
  have hz1 : (w.alloc (.cells #[.int .i64 0, .int .i64 0, .int .i64 0, .int .i64 0, .int .i64 0] 43)).heap.size = w.heap.size + 1 := by simp
  cases q0 : schB l with
  | false =>
    have HF : Hid (URun l wt s = us0 ∧ CRunSchedule l wt s = 1) := by
      have : CRunSchedule l wt s = 1 := by unfold CRunSchedule; split <;> simp [askC, q0]
      exact ⟨by unfold URun; rw [this]; rfl, this⟩
    rw [q0] at HL; clear q0 HN HW
    go_enter Try.func37, Try.ntmps37
    go_wp2_with fail
    refine HL.out.mono ?_; rintro e w1 ⟨rfl, hb⟩
    have HZe := Lib.hid (z.next hb)
    have HBe := Lib.hid (b0.trans (hb.mono b0.size))
    clear HL z b0 hb
    obtain ⟨p0, p1, p2, p3, p4, f0, f1, f2, f3, f4, ult⟩ := HZe.out
    go_wp2_with fail
    obtain ⟨r0, r1, r2, r3, r4, _⟩ := put5c_at HZe.out (0) (0) (0) (0) (0)
    change bodyPost _ _ _ _ _ (put5c w1 w.heap.size (.int .i64 0) (.int .i64 0) (.int .i64 0) (.int .i64 0) (.int .i64 0))
    refine bodyPost_ret (v := .tuple #[usv (0) (0) (0) (0) (0), .int .i64 1]) (by simp [results, Try.results37, go_sem, r0, r1, r2, r3, r4]) rfl ⟨by rw [HF.out.1, HF.out.2]; rfl, ?_⟩
    exact HBe.out.trans ((put5c_kp _ _ _ _ _ _ _).below (L := w.heap.size) HBe.out.size (fun k hk => by omega))
  | true =>
    rw [q0] at HL
    cases q1 : wtB wt with
    | false =>
      have HF : Hid (URun l wt s = us0 ∧ CRunSchedule l wt s = 1) := by
        have : CRunSchedule l wt s = 1 := by unfold CRunSchedule; rw [q1]; rfl
        exact ⟨by unfold URun; rw [this]; rfl, this⟩
      rw [q1] at HW; clear q0 q1 HN
      go_enter Try.func37, Try.ntmps37
      go_wp2_with fail
      refine HL.out.mono ?_; rintro e w1 ⟨rfl, hb⟩
      have HZe := Lib.hid (z.next hb)
      have HBe := Lib.hid (b0.trans (hb.mono b0.size))
      have HW2 := HW w1 (hW.below HBe.out (Nat.le_refl _))
      clear HL z b0 hb HW
      go_wp2_with fail
      refine HW2.out.mono ?_; rintro e w2 ⟨rfl, rfl⟩
      obtain ⟨p0, p1, p2, p3, p4, f0, f1, f2, f3, f4, ult⟩ := HZe.out
      go_wp2_with fail
      obtain ⟨r0, r1, r2, r3, r4, _⟩ := put5c_at HZe.out (0) (0) (0) (0) (0)
      change bodyPost _ _ _ _ _ (put5c w1 w.heap.size (.int .i64 0) (.int .i64 0) (.int .i64 0) (.int .i64 0) (.int .i64 0))
      refine bodyPost_ret (v := .tuple #[usv (0) (0) (0) (0) (0), .int .i64 1]) (by simp [results, Try.results37, go_sem, r0, r1, r2, r3, r4]) rfl ⟨by rw [HF.out.1, HF.out.2]; rfl, ?_⟩
      exact HBe.out.trans ((put5c_kp _ _ _ _ _ _ _).below (L := w.heap.size) HBe.out.size (fun k hk => by omega))
    | true =>
      rw [q1] at HW
      cases q2 : inB s 0 8 with
      | false =>
        have HF : Hid (URun l wt s = us0 ∧ CRunSchedule l wt s = 2) := by
          have : CRunSchedule l wt s = 2 := by unfold CRunSchedule; simp [q1, askC, q0, inR, q2]
          exact ⟨by unfold URun; rw [this]; rfl, this⟩
        rw [q2] at HN; clear q0 q1 q2
        go_enter Try.func37, Try.ntmps37
        go_wp2_with fail
        refine HL.out.mono ?_; rintro e w1 ⟨rfl, hb⟩
        have HZe := Lib.hid (z.next hb)
        have HBe := Lib.hid (b0.trans (hb.mono b0.size))
        have HW2 := HW w1 (hW.below HBe.out (Nat.le_refl _))
        clear HL z b0 hb HW
        go_wp2_with fail
        refine HW2.out.mono ?_; rintro e w2 ⟨rfl, rfl⟩
        go_wp2_with fail
        refine (HN _).out.mono ?_; rintro e w2 ⟨rfl, rfl⟩
        obtain ⟨p0, p1, p2, p3, p4, f0, f1, f2, f3, f4, ult⟩ := HZe.out
        go_wp2_with fail
        obtain ⟨r0, r1, r2, r3, r4, _⟩ := put5c_at HZe.out (0) (0) (0) (0) (0)
        change bodyPost _ _ _ _ _ (put5c w1 w.heap.size (.int .i64 0) (.int .i64 0) (.int .i64 0) (.int .i64 0) (.int .i64 0))
        refine bodyPost_ret (v := .tuple #[usv (0) (0) (0) (0) (0), .int .i64 2]) (by simp [results, Try.results37, go_sem, r0, r1, r2, r3, r4]) rfl ⟨by rw [HF.out.1, HF.out.2]; rfl, ?_⟩
        exact HBe.out.trans ((put5c_kp _ _ _ _ _ _ _).below (L := w.heap.size) HBe.out.size (fun k hk => by omega))
      | true =>
        have hsb : 0 ≤ s ∧ s ≤ 8 := inB_t q2
        rw [q2] at HN; clear q2
        obtain ⟨m, rfl⟩ : ∃ m : Nat, s = m := ⟨s.toNat, by omega⟩
        have hn := (wtB_t q1).1
        have hwb := (wtB_t q1).2
        have hask : askC l wt.length (m : Int) = 0 := by
          have q3 : inB (wt.length : Int) 0 40 = true := by unfold inB; simp; omega
          have q4 : inB (m : Int) 0 8 = true := by unfold inB; simp; omega
          simp [askC, q0, inR, q3, q4]
        have HB := fun (W : World) (hP : AcAt W 0 W.heap.size l a) => Lib.hid (sBad wt.length m hn (by omega) l q0 a cap W hP)
        unfold BadP at HB
        cases q5 : allB (cs0 wt.length m) l with
        | false =>
          have HF : Hid (URun l wt m = us0 ∧ CRunSchedule l wt m = 4) := by
            have : CRunSchedule l wt m = 4 := by unfold CRunSchedule; simp [q1, hask, q5]
            exact ⟨by unfold URun; rw [this]; rfl, this⟩
          rw [q5] at HB
          clear q0 q1 q5 hwb hask
          generalize (goS (cs0 wt.length m) l).1 = kk at HB
          go_enter Try.func37, Try.ntmps37
          go_wp2_with fail
          refine HL.out.mono ?_; rintro e w1 ⟨rfl, hb⟩
          have HZ1 := Lib.hid (z.next hb)
          have HB1 := Lib.hid (b0.trans (hb.mono b0.size))
          have HW2 := HW w1 (hW.below HB1.out (Nat.le_refl _))
          have HBd := HB w1 (hP.next HB1.out)
          have hlt : w.heap.size < w1.heap.size := by have := hb.size; omega
          clear HL z b0 hb HW HB
          go_wp2_with fail
          refine HW2.out.mono ?_; rintro e w2 ⟨rfl, rfl⟩
          go_wp2_with fail
          refine (HN _).out.mono ?_; rintro e w2 ⟨rfl, rfl⟩
          go_wp2_with fail
          refine HBd.out.mono ?_; rintro e w2 ⟨rfl, hb2⟩
          have HZe := Lib.hid (HZ1.out.next hb2)
          have HBe := Lib.hid (HB1.out.trans (hb2.mono HB1.out.size))
          clear HBd HW2 HZ1 HB1 hb2 HN
          obtain ⟨p0, p1, p2, p3, p4, f0, f1, f2, f3, f4, ult⟩ := HZe.out
          go_wp2_with fail
          obtain ⟨r0, r1, r2, r3, r4, _⟩ := put5c_at HZe.out (0) (0) (0) (0) (0)
          change bodyPost _ _ _ _ _ (put5c w2 w.heap.size (.int .i64 0) (.int .i64 0) (.int .i64 0) (.int .i64 0) (.int .i64 0))
          refine bodyPost_ret (v := .tuple #[usv (0) (0) (0) (0) (0), .int .i64 4]) (by simp [results, Try.results37, go_sem, r0, r1, r2, r3, r4]) rfl ⟨by rw [HF.out.1, HF.out.2]; rfl, ?_⟩
          exact HBe.out.trans ((put5c_kp _ _ _ _ _ _ _).below (L := w.heap.size) HBe.out.size (fun k hk => by omega))
        | true =>
          have HF : Hid (URun l wt m = goU wt (cs0 wt.length m) us0 l ∧ CRunSchedule l wt m = 0) := by
            have : CRunSchedule l wt m = 0 := by unfold CRunSchedule; simp [q1, hask, q5]
            exact ⟨by unfold URun; rw [this]; rfl, this⟩
          have HU := fun (W : World) (hP : AcAt W 0 W.heap.size l a) (hW : At W aw wt) => Lib.hid (sUsed wt.length m hn (by omega) l q0 q5 wt rfl hwb a cap aw capw W hP hW)
          unfold UsedP at HU
          rw [q5] at HB
          clear q0 q1 q5 hwb hask
          generalize (goS (cs0 wt.length m) l).1 = kk at HB
          generalize goU wt (cs0 wt.length m) us0 l = u at *
          go_enter Try.func37, Try.ntmps37
          go_wp2_with fail
          refine HL.out.mono ?_; rintro e w1 ⟨rfl, hb⟩
          have HZ1 := Lib.hid (z.next hb)
          have HB1 := Lib.hid (b0.trans (hb.mono b0.size))
          have HW2 := HW w1 (hW.below HB1.out (Nat.le_refl _))
          have HBd := HB w1 (hP.next HB1.out)
          have hlt : w.heap.size < w1.heap.size := by have := hb.size; omega
          clear HL z b0 hb HW HB
          go_wp2_with fail
          refine HW2.out.mono ?_; rintro e w2 ⟨rfl, rfl⟩
          go_wp2_with fail
          refine (HN _).out.mono ?_; rintro e w2 ⟨rfl, rfl⟩
          go_wp2_with fail
          refine HBd.out.mono ?_; rintro e w2 ⟨rfl, hb2⟩
          have HZ2 := Lib.hid (HZ1.out.next hb2)
          have HB2 := Lib.hid (HB1.out.trans (hb2.mono HB1.out.size))
          have HU2 := HU w2 (hP.next HB2.out) (hW.below HB2.out (Nat.le_refl _))
          clear HBd HW2 HZ1 HB1 hb2 HN HU
          go_wp2_with fail
          refine HU2.out.mono ?_; rintro e w3 ⟨rfl, hb3⟩
          have HZe := Lib.hid (HZ2.out.next hb3)
          have HBe := Lib.hid (HB2.out.trans (hb3.mono HB2.out.size))
          clear HU2 HZ2 HB2 hb3
          obtain ⟨p0, p1, p2, p3, p4, f0, f1, f2, f3, f4, ult⟩ := HZe.out
          go_wp2_with fail
          obtain ⟨r0, r1, r2, r3, r4, _⟩ := put5c_at HZe.out (u.cost) (u.adv) (u.st) (u.ld) ((u.into.length : Int))
          change bodyPost _ _ _ _ _ (put5c w3 w.heap.size (.int .i64 u.cost) (.int .i64 u.adv) (.int .i64 u.st) (.int .i64 u.ld) (.int .i64 (u.into.length : Int)))
          refine bodyPost_ret (v := .tuple #[usv (u.cost) (u.adv) (u.st) (u.ld) ((u.into.length : Int)), .int .i64 0]) (by simp [results, Try.results37, go_sem, r0, r1, r2, r3, r4]) rfl ⟨by rw [HF.out.1, HF.out.2], ?_⟩
          exact HBe.out.trans ((put5c_kp _ _ _ _ _ _ _).below (L := w.heap.size) HBe.out.size (fun k hk => by omega))

end Go.Proofs.Ytolpbflalbfhjaa
