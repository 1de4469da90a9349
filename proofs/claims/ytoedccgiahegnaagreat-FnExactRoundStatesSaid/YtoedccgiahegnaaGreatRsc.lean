/- roundOf and RoundStates by the program. -/
import Derived.Test.YtoedccgiahegnaaGreatRsb
import Derived.Test.YtoedccgiahegnaaGreatPlb
import Derived.Test.YtoedccgiahegnaaGreatIh
namespace Go.Proofs.YtoedccgiahegnaaGreat
open Go Go.RowKit
set_option linter.unusedVariables false

/-- the code for a round and a state -/
def roC (fs : List Fn) (f : Int) (args : List Int) : Int := if plC fs f args = 0 then (if repB fs f = true then 0 else 2) else plC fs f args
def RoRes (fs : List Fn) (ap : Option Addr) (capp : Nat) (f : Int) (aa : Option Addr) (ca : Nat) (args : List Int) (w : World) (e : Ending) (w' : World) : Prop := Below w.heap.size w w' ∧
  ((¬ roC fs f args = 0 ∧ e = .returned (.tuple #[.agg #[.nilIface, .slice none 0 0, .string ⟨#[]⟩, .int .i64 0, .slice none 0 0, .slice none 0 0], .int .i64 (roC fs f args)])) ∨
   (roC fs f args = 0 ∧ ∃ af cf, e = .returned (.tuple #[.agg #[ofN, .slice ap fs.length capp, .string (fs.getD f.toNat noFn).name, .int .i64 (fs.getD f.toNat noFn).params, .slice af (fs.getD f.toNat noFn).outs.len cf, .slice aa args.length ca], .int .i64 0]) ∧ Fat w 0 w.heap.size (fs.getD f.toNat noFn).outs af))
theorem roC_known {fs : List Fn} {f : Int} {args : List Int} (h : roC fs f args = 0) : plC fs f args = 0 ∧ repB fs f = true := by
  unfold roC at h
  by_cases h0 : plC fs f args = 0
  · rw [if_pos h0] at h
    by_cases h1 : repB fs f = true
    · exact ⟨h0, h1⟩
    · rw [if_neg h1] at h; cases h
  · rw [if_neg h0] at h; exact absurd h h0

set_option maxRecDepth 100000 in
set_option maxHeartbeats 6400000 in
theorem iRoundOf (fs : List Fn) (ap : Option Addr) (capp : Nat) (f : Int) (aa : Option Addr) (ca : Nat) (args : List Int) (w : World) (hP : Pat w 0 w.heap.size fs ap) (hsz : pgSize fs ≤ 1048576) (hcap : fs.length ≤ capp) (hcm : capp ≤ 1048576) (hA : At w aa args) (hal : args.length ≤ 1048576) :
    Calls Tryz.prog 61 #[.agg #[.slice ap fs.length capp], .int .i64 f, .slice aa args.length ca] w (RoRes fs ap capp f aa ca args w) := by
  obtain ⟨w0, hw0⟩ : ∃ w0, (w.alloc (.cells #[.slice ap fs.length capp] 31)).alloc (.cells #[.nilIface, .slice none 0 0, .string ⟨#[]⟩, .int .i64 0, .slice none 0 0, .slice none 0 0] 67) = w0 := ⟨_, rfl⟩
  have hb0 : Below w.heap.size w w0 := by rw [← hw0]; exact ((Below.refl _ _).alloc (Nat.le_refl _) _).alloc (by simp) _
  have z0 : w0.heap.size = w.heap.size + 2 := by rw [← hw0]; simp
  have c0 : w0.cell? ⟨w.heap.size, 0, none⟩ = some (.slice ap fs.length capp) := by rw [← hw0]; simp [go_sem]
  have HZ0 : Hid (PBox w0 (w.heap.size + 1) .nilIface (.slice none 0 0) (.string ⟨#[]⟩) (.int .i64 0) (.slice none 0 0) (.slice none 0 0)) := by
    show PBox _ _ _ _ _ _ _ _
    rw [← hw0]
    exact ⟨by simp [go_sem], by simp [go_sem], by simp [go_sem], by simp [go_sem], by simp [go_sem], by simp [go_sem], fun o => by simp [go_sem]⟩
  have hs0 := hb0.size
  have HF := Lib.hid (iPlaceOfB fs ap capp f aa ca args w0 w.heap.size hb0.size (hP.below hb0) hsz hcap hcm (hA.below hb0 (Nat.le_refl _)) hal)
  have HRA : Hid (∀ W c, Below w.heap.size w W → roC fs f args = c → ¬ c = 0 → RoRes fs ap capp f aa ca args w (.returned (.tuple #[.agg #[.nilIface, .slice none 0 0, .string ⟨#[]⟩, .int .i64 0, .slice none 0 0, .slice none 0 0], .int .i64 c])) W) := fun W c hW e hc => by subst e; exact ⟨hW, .inl ⟨hc, rfl⟩⟩
  have HRB : Hid (∀ W af cf, Below w.heap.size w W → roC fs f args = 0 → Fat w 0 w.heap.size (fs.getD f.toNat noFn).outs af → RoRes fs ap capp f aa ca args w (.returned (.tuple #[.agg #[ofN, .slice ap fs.length capp, .string (fs.getD f.toNat noFn).name, .int .i64 (fs.getD f.toNat noFn).params, .slice af (fs.getD f.toNat noFn).outs.len cf, .slice aa args.length ca], .int .i64 0])) W) := fun W af cf hW hc hf => ⟨hW, .inr ⟨hc, af, cf, rfl, hf⟩⟩
  have HFB : Hid (∀ af, Fat w0 0 w.heap.size (fs.getD f.toNat noFn).outs af → Fat w 0 w.heap.size (fs.getD f.toNat noFn).outs af) := fun af h => h.agree (fun i _ h2 => (hb0.block i h2).symm)
  generalize RoRes fs ap capp f aa ca args w = Q at *
  have HB0 := Lib.hid hb0
  have Z0 := Lib.hid z0
  clear hP hA hb0 z0
  go_enter Tryz.func61, Tryz.ntmps61
  go_wp2_with fail
  clear hw0
  refine HF.out.mono ?_; rintro e w1 ⟨hb1, ⟨hn, rfl⟩ | ⟨hy, hfa, hab, af, cf, rfl, hFo⟩⟩
  · have hbf : (plC fs f args != 0) = true := by simp [hn]
    have HC : Hid (roC fs f args = plC fs f args) := if_neg hn
    have HN := Lib.hid hn
    have HR := fun W hW => Lib.hid (HRA.out W _ hW HC.out HN.out)
    have hz0 := Z0.out
    have hs1 := hb1.size
    have HZ1 := HZ0.out.next hb1
    have HB1 := HB0.out.trans (hb1.mono hs0)
    obtain ⟨W6, hW6⟩ : ∃ W6, w1.alloc (.cells #[.nilIface, .slice none 0 0, .string ⟨#[]⟩, .int .i64 0, .slice none 0 0, .slice none 0 0] 67) = W6 := ⟨_, rfl⟩
    have q0 : PBox W6 w1.heap.size .nilIface (.slice none 0 0) (.string ⟨#[]⟩) (.int .i64 0) (.slice none 0 0) (.slice none 0 0) := by rw [← hW6]; exact ⟨by simp [go_sem], by simp [go_sem], by simp [go_sem], by simp [go_sem], by simp [go_sem], by simp [go_sem], fun o => by simp [go_sem]⟩
    have b6 : Below w1.heap.size w1 W6 := by rw [← hW6]; exact (Below.refl _ _).alloc (Nat.le_refl _) _
    obtain ⟨W7, hW7⟩ : ∃ W7, ((((((W6.setCell ⟨w1.heap.size, 0, none⟩ .nilIface).setCell ⟨w1.heap.size, 1, none⟩ (.slice none 0 0)).setCell ⟨w1.heap.size, 2, none⟩ (.string ⟨#[]⟩)).setCell ⟨w1.heap.size, 3, none⟩ (.int .i64 0)).setCell ⟨w1.heap.size, 4, none⟩ (.slice none 0 0)).setCell ⟨w1.heap.size, 5, none⟩ (.slice none 0 0)) = W7 := ⟨_, rfl⟩
    have b7 : Below w1.heap.size w1 W7 := by rw [← hW7]; exact below6 (B := w1.heap.size) b6 (Nat.le_refl _) _ _ _ _ _ _
    have HZ7 := HZ1.next b7
    have HB7 := Lib.hid (HB1.trans (b7.mono HB1.size))
    have l0 := q0.c0
    have l1 := q0.c1
    have l2 := q0.c2
    have l3 := q0.c3
    have l4 := q0.c4
    have l5 := q0.c5
    have m0 := q0.fz 0
    have m1 := q0.fz 1
    have m2 := q0.fz 2
    have m3 := q0.fz 3
    have m4 := q0.fz 4
    have m5 := q0.fz 5
    have k0 := HZ7.c0
    have k1 := HZ7.c1
    have k2 := HZ7.c2
    have k3 := HZ7.c3
    have k4 := HZ7.c4
    have k5 := HZ7.c5
    have n0 := HZ7.fz 0
    have n1 := HZ7.fz 1
    have n2 := HZ7.fz 2
    have n3 := HZ7.fz 3
    have n4 := HZ7.fz 4
    have n5 := HZ7.fz 5
    clear HF HRA HRB HFB hn HZ0 HZ1 HB1 q0 b6 b7 HZ7 hb1
    generalize plC fs f args = pc at *
    go_wp2_with fail
    exact bodyPost_ret (v := .tuple #[.agg #[.nilIface, .slice none 0 0, .string ⟨#[]⟩, .int .i64 0, .slice none 0 0, .slice none 0 0], .int .i64 pc]) (by simp [results, Tryz.results61, go_sem, k0, k1, k2, k3, k4, k5]) rfl (HR _ (below6 (B := w.heap.size + 1) HB7.out (by omega) _ _ _ _ _ _)).out
  · have HFW := Lib.hid (HFB.out af hFo)
    obtain ⟨hp1, hf1, hf2⟩ := hfa
    obtain ⟨j, rfl⟩ := Int.eq_ofNat_of_zero_le hf1
    have ej : (j : Int).toNat = j := rfl
    rw [ej] at HFW hab hFo ⊢
    have hj : j < fs.length := by omega
    have hm := (fn_parts (progB_fn hp1 hj)).2.1.2
    have HC : Hid (roC fs (j : Int) args = if repB fs (j : Int) = true then 0 else 2) := if_pos hy
    have HRP := fun W => Lib.hid (show Calls Tryz.prog 86 #[.agg #[.string (fs.getD j noFn).name, .int .i64 (fs.getD j noFn).params, .slice af (fs.getD j noFn).outs.len cf]] W (fun e w' => e = .returned (.bool (repB fs (j : Int))) ∧ Below W.heap.size W w') from iRepeats _ _ af _ cf W (by omega))
    have HB := Lib.hid (HRB.out · af cf · · HFW.out)
    have HA2 := HRA
    rw [ej] at HB
    have hz0 := Z0.out
    have hs1 := hb1.size
    have HZ1 := HZ0.out.next hb1
    have HB1 := HB0.out.trans (hb1.mono hs0)
    clear HF HRB HFB hab hFo hp1 hf1 hf2 HFW HZ0 hy
    generalize (fs.getD j noFn).name = nm at *
    generalize (fs.getD j noFn).params = pa at *
    generalize (fs.getD j noFn).outs.len = mo at *
    obtain ⟨W6, hW6⟩ : ∃ W6, w1.alloc (.cells #[.nilIface, .slice none 0 0, .string ⟨#[]⟩, .int .i64 0, .slice none 0 0, .slice none 0 0] 67) = W6 := ⟨_, rfl⟩
    have q0 : PBox W6 w1.heap.size .nilIface (.slice none 0 0) (.string ⟨#[]⟩) (.int .i64 0) (.slice none 0 0) (.slice none 0 0) := by rw [← hW6]; exact ⟨by simp [go_sem], by simp [go_sem], by simp [go_sem], by simp [go_sem], by simp [go_sem], by simp [go_sem], fun o => by simp [go_sem]⟩
    have b6 : Below w1.heap.size w1 W6 := by rw [← hW6]; exact (Below.refl _ _).alloc (Nat.le_refl _) _
    obtain ⟨W7, hW7⟩ : ∃ W7, ((((((W6.setCell ⟨w1.heap.size, 0, none⟩ ofN).setCell ⟨w1.heap.size, 1, none⟩ (.slice ap fs.length capp)).setCell ⟨w1.heap.size, 2, none⟩ (.string nm)).setCell ⟨w1.heap.size, 3, none⟩ (.int .i64 pa)).setCell ⟨w1.heap.size, 4, none⟩ (.slice af mo cf)).setCell ⟨w1.heap.size, 5, none⟩ (.slice aa args.length ca)) = W7 := ⟨_, rfl⟩
    have P7 : PBox W7 w1.heap.size ofN (.slice ap fs.length capp) (.string nm) (.int .i64 pa) (.slice af mo cf) (.slice aa args.length ca) := by rw [← hW7]; exact q0.put6
    have b7 : Below w1.heap.size w1 W7 := by rw [← hW7]; exact below6 (B := w1.heap.size) b6 (Nat.le_refl _) _ _ _ _ _ _
    have HZ7 := Lib.hid (HZ1.next b7)
    have HB7 := Lib.hid (HB1.trans (b7.mono HB1.size))
    have HP7 := Lib.hid P7
    have l0 := q0.c0
    have l1 := q0.c1
    have l2 := q0.c2
    have l3 := q0.c3
    have l4 := q0.c4
    have l5 := q0.c5
    have m0 := q0.fz 0
    have m1 := q0.fz 1
    have m2 := q0.fz 2
    have m3 := q0.fz 3
    have m4 := q0.fz 4
    have m5 := q0.fz 5
    have t0 := HP7.out.c0
    have t1 := HP7.out.c1
    have t2 := HP7.out.c2
    have t3 := HP7.out.c3
    have t4 := HP7.out.c4
    have t5 := HP7.out.c5
    have HR7 := HRP W7
    clear HRP q0 b6 b7 P7 HZ1 HB1 hb1
    go_wp2_with fail
    refine HR7.out.mono ?_; rintro e w8 ⟨rfl, b8⟩
    have hs7 := HB7.out.size
    have HB8 := Lib.hid (HB7.out.trans (b8.mono hs7))
    have HZ8 := HZ7.out.next b8
    have HP8 := HP7.out.next b8
    clear HR7 b8 HZ7 HP7 l0 l1 l2 l3 l4 l5 m0 m1 m2 m3 m4 m5 t0 t1 t2 t3 t4 t5
    have k0 := HZ8.c0
    have k1 := HZ8.c1
    have k2 := HZ8.c2
    have k3 := HZ8.c3
    have k4 := HZ8.c4
    have k5 := HZ8.c5
    have n0 := HZ8.fz 0
    have n1 := HZ8.fz 1
    have n2 := HZ8.fz 2
    have n3 := HZ8.fz 3
    have n4 := HZ8.fz 4
    have n5 := HZ8.fz 5
    have s0 := HP8.c0
    have s1 := HP8.c1
    have s2 := HP8.c2
    have s3 := HP8.c3
    have s4 := HP8.c4
    have s5 := HP8.c5
    clear HZ8 HP8
    by_cases hr : repB fs (j : Int) = true
    · have HC0 : Hid (roC fs (j : Int) args = 0) := by show _ = _; rw [HC.out, if_pos hr]
      rw [hr]
      clear hr
      go_wp2_with fail
      exact bodyPost_ret (v := .tuple #[.agg #[ofN, .slice ap fs.length capp, .string nm, .int .i64 pa, .slice af mo cf, .slice aa args.length ca], .int .i64 0]) (by simp [results, Tryz.results61, go_sem, k0, k1, k2, k3, k4, k5]) rfl (HB.out _ (below6 (B := w.heap.size + 1) HB8.out (by omega) _ _ _ _ _ _) HC0.out)
    · have HC0 : Hid (roC fs (j : Int) args = 2) := by show _ = _; rw [HC.out, if_neg hr]
      have hr2 : repB fs (j : Int) = false := by simpa using hr
      rw [hr2]
      clear hr hr2
      go_wp2_with fail
      exact bodyPost_ret (v := .tuple #[.agg #[.nilIface, .slice none 0 0, .string ⟨#[]⟩, .int .i64 0, .slice none 0 0, .slice none 0 0], .int .i64 2]) (by simp [results, Tryz.results61, go_sem, k0, k1, k2, k3, k4, k5]) rfl (HA2.out _ 2 (below6 (B := w.heap.size + 1) HB8.out (by omega) _ _ _ _ _ _) HC0.out (by decide))

end Go.Proofs.YtoedccgiahegnaaGreat
