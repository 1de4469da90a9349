/- The run of a schedule, by the program. -/
import Derived.Test.YtolpbflalbfhjaaCkx
namespace Go.Proofs.Ytolpbflalbfhjaa
open Go.RowKit
set_option linter.unusedVariables false

set_option maxRecDepth 100000 in
set_option maxHeartbeats 3200000 in
theorem iRunSchedule (l : List Ac) (a : Option Addr) (cap : Nat) (wt : List Int) (aw : Option Addr) (capw : Nat) (s : Int) (w : World) (hP : AcAt w 0 w.heap.size l a) (hs : l.length ≤ 1048576) (hW : At w aw wt) (hR : Rng wt) (hs2 : wt.length ≤ 1048576)
    (h0 : -9223372036854775808 ≤ s ∧ s ≤ 9223372036854775807) :
    Calls Try.prog 38 #[.slice a l.length cap, .slice aw wt.length capw, .int .i64 s] w (RunP (URun l wt s) (CRunSchedule l wt s) w) := by
  have z := uat_new w 43
  have b0 : Below w.heap.size w (w.alloc (.cells #[.int .i64 0, .int .i64 0, .int .i64 0, .int .i64 0, .int .i64 0] 43)) := (Below.refl _ _).alloc (Nat.le_refl _) _
  have HW := Lib.hid (iValidWeights wt aw capw _ (hW.below b0 (Nat.le_refl _)) hs2)
  have hz1 : (w.alloc (.cells #[.int .i64 0, .int .i64 0, .int .i64 0, .int .i64 0, .int .i64 0] 43)).heap.size = w.heap.size + 1 := by simp
  have HPa := Lib.hid (hP.next b0)
  obtain ⟨wa, hwa⟩ : ∃ wa, wa = w.alloc (.cells #[.int .i64 0, .int .i64 0, .int .i64 0, .int .i64 0, .int .i64 0] 43) := ⟨_, rfl⟩
  rw [← hwa] at z b0 HW hz1 HPa
  cases q1 : wtB wt with
  | false =>
    have HF : Hid (URun l wt s = us0 ∧ CRunSchedule l wt s = 1) := by
      have : CRunSchedule l wt s = 1 := by unfold CRunSchedule; rw [q1]; rfl
      exact ⟨by unfold URun; rw [this]; rfl, this⟩
    rw [q1] at HW; clear q1
    have HZe := Lib.hid z
    have HBe := Lib.hid b0
    clear z b0
    go_enter Try.func38, Try.ntmps38
    go_wp2_with fail
    rw [← hwa]
    clear hwa
    refine HW.out.mono ?_; rintro e w' ⟨rfl, rfl⟩
    obtain ⟨p0, p1, p2, p3, p4, f0, f1, f2, f3, f4, ult⟩ := HZe.out
    go_wp2_with fail
    obtain ⟨r0, r1, r2, r3, r4, _⟩ := put5c_at HZe.out (0) (0) (0) (0) (0)
    change bodyPost _ _ _ _ _ (put5c wa w.heap.size (.int .i64 0) (.int .i64 0) (.int .i64 0) (.int .i64 0) (.int .i64 0))
    refine bodyPost_ret (v := .tuple #[usv (0) (0) (0) (0) (0), .int .i64 1]) (by simp [results, Try.results38, go_sem, r0, r1, r2, r3, r4]) rfl ⟨by rw [HF.out.1, HF.out.2]; rfl, ?_⟩
    exact HBe.out.trans ((put5c_kp _ _ _ _ _ _ _).below (L := w.heap.size) HBe.out.size (fun k hk => by omega))
  | true =>
    rw [q1] at HW
    have hn := (wtB_t q1).1
    have hwb := (wtB_t q1).2
    by_cases hask : askC l wt.length s = 0
    · obtain ⟨q0, _, hsb⟩ := askC_0 hask
      obtain ⟨m, rfl⟩ : ∃ m : Nat, s = m := ⟨s.toNat, by omega⟩
      have HB := Lib.hid (iFollow_0 wt.length m hn (by omega) l q0 a cap wa HPa.out)
      unfold FolP at HB
      have hm8 : m ≤ 8 := by omega
      cases q5 : allB (cs0 wt.length m) l with
      | false =>
        have HF : Hid (URun l wt m = us0 ∧ CRunSchedule l wt m = 4) := by
          have : CRunSchedule l wt m = 4 := by unfold CRunSchedule; simp [q1, hask, q5]
          exact ⟨by unfold URun; rw [this]; rfl, this⟩
        rw [q5, if_neg (by simp)] at HB
        clear q0 q1 q5 hwb hask hsb
        generalize (goS (cs0 wt.length m) l).1 = kk at HB
        go_enter Try.func38, Try.ntmps38
        go_wp2_with fail
        rw [← hwa]
        clear hwa
        refine HW.out.mono ?_; rintro e w' ⟨rfl, rfl⟩
        go_wp2_with fail
        refine HB.out.mono ?_; rintro e w1 ⟨t, adv, g, h, rfl, x1, x2, x3, x4, x5, x6, x7, x8, hb⟩
        clear x1 x2 x3 x4 x5 x6 x7 x8
        have BX : ∀ o : Obj, Below w1.heap.size w1 (w1.alloc o) := fun o => (Below.refl _ _).alloc (Nat.le_refl _) o
        have BB := BX (.cells #[.int .i64 t.cur, .int .i64 t.left, .slice (some ⟨g, 0, none⟩) t.slots.length t.slots.length, .slice (some ⟨h, 0, none⟩) adv.length adv.length] 67)
        obtain ⟨w2, hw2⟩ : ∃ w2, w2 = w1.alloc (.cells #[.int .i64 t.cur, .int .i64 t.left, .slice (some ⟨g, 0, none⟩) t.slots.length t.slots.length, .slice (some ⟨h, 0, none⟩) adv.length adv.length] 67) := ⟨_, rfl⟩
        have HZ1 := z.next hb
        have HB1 := b0.trans (hb.mono b0.size)
        have hlt : w.heap.size < w1.heap.size := by have := hb.size; omega
        have HK := put5c_kp w1 w.heap.size (.int .i64 0) (.int .i64 0) (.int .i64 0) (.int .i64 0) (.int .i64 0)
        obtain ⟨p0, p1, p2, p3, p4, f0, f1, f2, f3, f4, ult⟩ := HZ1
        have HZ5 := put5c_at (z.next hb) 0 0 0 0 0
        have HB5 := HB1.trans (HK.below (L := w.heap.size) HB1.size (fun k hk => by omega))
        have HZ6 := HZ5.next ((Below.refl _ _).alloc (Nat.le_refl _) (.cells #[.int .i64 t.cur, .int .i64 t.left, .slice (some ⟨g, 0, none⟩) t.slots.length t.slots.length, .slice (some ⟨h, 0, none⟩) adv.length adv.length] 67))
        have HB6 := Lib.hid (HB5.trans (((Below.refl _ _).alloc (Nat.le_refl _) (.cells #[.int .i64 t.cur, .int .i64 t.left, .slice (some ⟨g, 0, none⟩) t.slots.length t.slots.length, .slice (some ⟨h, 0, none⟩) adv.length adv.length] 67)).mono HB5.size))
        obtain ⟨r0, r1, r2, r3, r4, _⟩ := HZ6
        clear hw2 BX BB HZ5 HK HB5 z b0
        go_wp2_with fail
        change bodyPost _ _ _ _ _ ((put5c w1 w.heap.size (.int .i64 0) (.int .i64 0) (.int .i64 0) (.int .i64 0) (.int .i64 0)).alloc (.cells #[.int .i64 t.cur, .int .i64 t.left, .slice (some ⟨g, 0, none⟩) t.slots.length t.slots.length, .slice (some ⟨h, 0, none⟩) adv.length adv.length] 67))
        refine bodyPost_ret (v := .tuple #[usv 0 0 0 0 0, .int .i64 4]) (by simp only [results, Try.results38, go_sem]; simp [go_sem, r0, r1, r2, r3, r4]) rfl ⟨by rw [HF.out.1, HF.out.2]; rfl, HB6.out⟩
      | true =>
        have HF : Hid (URun l wt m = goU wt (cs0 wt.length m) us0 l ∧ CRunSchedule l wt m = 0) := by
          have : CRunSchedule l wt m = 0 := by unfold CRunSchedule; simp [q1, hask, q5]
          exact ⟨by unfold URun; rw [this]; rfl, this⟩
        have HBE := Lib.hid (bes_end (wt := wt) q0 q5)
        have hll := (schB_t q0).1
        rw [q5, if_pos rfl] at HB
        clear q0 q1 q5 hask hsb
        generalize goU wt (cs0 wt.length m) us0 l = u at *
        generalize (goS (cs0 wt.length m) l).1 = kk at HB
        generalize (goS (cs0 wt.length m) l).2 = ts at HB HBE
        generalize goA (cs0 wt.length m) (List.replicate wt.length 0) l = ad at HB HBE
        have HWB := Lib.hid hwb
        clear hwb
        go_enter Try.func38, Try.ntmps38
        go_wp2_with fail
        rw [← hwa]
        clear hwa
        refine HW.out.mono ?_; rintro e w' ⟨rfl, rfl⟩
        clear HW
        go_wp2_with fail
        refine HB.out.mono ?_; rintro e w1 ⟨t, adv, g, h, rfl, x1, x2, x3, x4, x5, x6, x7, x8, hb⟩
        rw [← x1, ← x2] at HBE
        obtain ⟨w2, hw2⟩ : ∃ w2, w2 = w1.alloc (.cells #[.int .i64 t.cur, .int .i64 t.left, .slice (some ⟨g, 0, none⟩) t.slots.length t.slots.length, .slice (some ⟨h, 0, none⟩) adv.length adv.length] 67) := ⟨_, rfl⟩
        have BB : Below w1.heap.size w1 w2 := by rw [hw2]; exact (Below.refl _ _).alloc (Nat.le_refl _) _
        have hc2 : w2.cell? ⟨w1.heap.size, 2, none⟩ = some (.slice (some ⟨g, 0, none⟩) t.slots.length t.slots.length) := by rw [hw2]; simp [go_sem]
        have hc3 : w2.cell? ⟨w1.heap.size, 3, none⟩ = some (.slice (some ⟨h, 0, none⟩) adv.length adv.length) := by rw [hw2]; simp [go_sem]
        have hz2 : w2.heap.size = w1.heap.size + 1 := by rw [hw2]; simp
        have HB1 := b0.trans (hb.mono b0.size)
        have HB2 := HB1.trans (BB.mono HB1.size)
        have HZ2 := Lib.hid ((z.next hb).next BB)
        have HUS := Lib.hid (iUsage t.slots adv g h w1.heap.size (by omega) (by omega) x5 l (by omega) wt x3.symm HWB.out a cap aw capw w2 hc2 hc3 (by omega) ((x7.at).below BB (Nat.le_refl _)) ((x8.at).below BB (Nat.le_refl _)) (hW.below HB2 (Nat.le_refl _)) (hP.next HB2))
        have HE : Hid (usv (dotK adv wt adv.length) (sumK adv adv.length) (cntA l 2 l.length) (cntA l 3 l.length) (cntK t.slots t.slots.length) = usv u.cost u.adv u.st u.ld u.into.length) := by
          show _ = _
          have := HBE.out
          rw [x3, x4, this.1, this.2.1, this.2.2.1, this.2.2.2.1, this.2.2.2.2]
        rw [HE.out] at HUS
        have HB3 := Lib.hid HB2
        have hlt : w.heap.size < w2.heap.size := by have := hb.size; omega
        clear HE HBE HB x1 x2 x3 x4 x5 x6 x7 x8 hc2 hc3 BB HB2 HB1 z b0 hb HWB
        go_wp2_with fail
        rw [← hw2]
        clear hw2 hz2
        refine HUS.out.mono ?_; rintro e w3 ⟨rfl, hb3⟩
        have HZe := Lib.hid (HZ2.out.next hb3)
        have HBe := Lib.hid (HB3.out.trans (hb3.mono HB3.out.size))
        clear HUS HZ2 HB3 hb3
        obtain ⟨p0, p1, p2, p3, p4, f0, f1, f2, f3, f4, ult⟩ := HZe.out
        go_wp2_with fail
        obtain ⟨r0, r1, r2, r3, r4, _⟩ := put5c_at HZe.out (u.cost) (u.adv) (u.st) (u.ld) ((u.into.length : Int))
        change bodyPost _ _ _ _ _ (put5c w3 w.heap.size (.int .i64 u.cost) (.int .i64 u.adv) (.int .i64 u.st) (.int .i64 u.ld) (.int .i64 (u.into.length : Int)))
        refine bodyPost_ret (v := .tuple #[usv (u.cost) (u.adv) (u.st) (u.ld) ((u.into.length : Int)), .int .i64 0]) (by simp [results, Try.results38, go_sem, r0, r1, r2, r3, r4]) rfl ⟨by rw [HF.out.1, HF.out.2], ?_⟩
        exact HBe.out.trans ((put5c_kp _ _ _ _ _ _ _).below (L := w.heap.size) HBe.out.size (fun k hk => by omega))
    · have HF : Hid (URun l wt s = us0 ∧ CRunSchedule l wt s = askC l wt.length s) := by
        have : CRunSchedule l wt s = askC l wt.length s := by unfold CRunSchedule; rw [if_pos q1, if_neg hask]
        exact ⟨by unfold URun; rw [this, if_neg hask], this⟩
      have HB := Lib.hid (iFollow_b l a cap wt.length s wa HPa.out hs hask)
      unfold FolB at HB
      have hne : (askC l wt.length s != 0) = true := by simp [hask]
      clear hask q1 hwb
      generalize askC l wt.length s = c at *
      go_enter Try.func38, Try.ntmps38
      go_wp2_with fail
      rw [← hwa]
      clear hwa
      refine HW.out.mono ?_; rintro e w' ⟨rfl, rfl⟩
      go_wp2_with fail
      refine HB.out.mono ?_; rintro e w1 ⟨rfl, hb⟩
      have HB1 := b0.trans (hb.mono b0.size)
      have hlt : w.heap.size < w1.heap.size := by have := hb.size; omega
      have HK := put5c_kp w1 w.heap.size (.int .i64 0) (.int .i64 0) (.int .i64 0) (.int .i64 0) (.int .i64 0)
      obtain ⟨p0, p1, p2, p3, p4, f0, f1, f2, f3, f4, ult⟩ := z.next hb
      have HZ5 := put5c_at (z.next hb) 0 0 0 0 0
      have HB5 := HB1.trans (HK.below (L := w.heap.size) HB1.size (fun k hk => by omega))
      have HZ6 := HZ5.next ((Below.refl _ _).alloc (Nat.le_refl _) (.cells #[.int .i64 0, .int .i64 0, .slice none 0 0, .slice none 0 0] 67))
      have HB6 := Lib.hid (HB5.trans (((Below.refl _ _).alloc (Nat.le_refl _) (.cells #[.int .i64 0, .int .i64 0, .slice none 0 0, .slice none 0 0] 67)).mono HB5.size))
      obtain ⟨r0, r1, r2, r3, r4, _⟩ := HZ6
      clear HZ5 HK HB5 z b0
      go_wp2_with fail
      change bodyPost _ _ _ _ _ ((put5c w1 w.heap.size (.int .i64 0) (.int .i64 0) (.int .i64 0) (.int .i64 0) (.int .i64 0)).alloc (.cells #[.int .i64 0, .int .i64 0, .slice none 0 0, .slice none 0 0] 67))
      refine bodyPost_ret (v := .tuple #[usv 0 0 0 0 0, .int .i64 c]) (by simp only [results, Try.results38, go_sem]; simp [go_sem, r0, r1, r2, r3, r4]) rfl ⟨by rw [HF.out.1, HF.out.2]; rfl, HB6.out⟩

theorem uat_box (w : World) (a b c d e : Int) (t : TypeId) : UAt (w.alloc (.cells #[.int .i64 a, .int .i64 b, .int .i64 c, .int .i64 d, .int .i64 e] t)) w.heap.size a b c d e :=
  ⟨by simp [go_sem], by simp [go_sem], by simp [go_sem], by simp [go_sem], by simp [go_sem], by simp [go_sem], by simp [go_sem], by simp [go_sem], by simp [go_sem], by simp [go_sem], by simp⟩
set_option maxRecDepth 100000 in
theorem eqUs (a b c d e : Int) (w : World) : Calls Try.prog 39 #[usv a b c d e, usv a b c d e] w fun e w' => e = .returned (.bool true) ∧ Below w.heap.size w w' := by
  have ha : (a != a) = false := by simp
  have hb : (b != b) = false := by simp
  have hc : (c != c) = false := by simp
  have hd : (d != d) = false := by simp
  have he : (e != e) = false := by simp
  go_enter Try.func39, Try.ntmps39
  go_wp2_with fail
  go_ret
  exact ⟨rfl, ((Below.refl _ _).alloc (Nat.le_refl _) _).alloc (by simp) _⟩

end Go.Proofs.Ytolpbflalbfhjaa
