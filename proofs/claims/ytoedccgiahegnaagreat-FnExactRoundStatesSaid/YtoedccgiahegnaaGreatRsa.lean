/- Chains of rounds: a place's box; its values, the place after a round. -/
import Derived.Test.YtoedccgiahegnaaGreatJc
namespace Go.Proofs.YtoedccgiahegnaaGreat
open Go Go.RowKit
set_option linter.unusedVariables false

/-- a block of six cells -/
structure PBox (W : World) (B : Nat) (a0 a1 a2 a3 a4 a5 : Value) : Prop where
  c0 : W.cell? ⟨B, 0, none⟩ = some a0
  c1 : W.cell? ⟨B, 1, none⟩ = some a1
  c2 : W.cell? ⟨B, 2, none⟩ = some a2
  c3 : W.cell? ⟨B, 3, none⟩ = some a3
  c4 : W.cell? ⟨B, 4, none⟩ = some a4
  c5 : W.cell? ⟨B, 5, none⟩ = some a5
  fz : ∀ o, W.frozen? ⟨B, o, none⟩ = false
theorem PBox.lt {W : World} {B : Nat} {a0 a1 a2 a3 a4 a5 : Value} (h : PBox W B a0 a1 a2 a3 a4 a5) : B < W.heap.size := cell_lt h.c0
theorem PBox.keep {S : Nat → Prop} {W W' : World} {B : Nat} {a0 a1 a2 a3 a4 a5 : Value} (h : PBox W B a0 a1 a2 a3 a4 a5) (k : Kp S W W') (hS : ¬ S B) : PBox W' B a0 a1 a2 a3 a4 a5 :=
  ⟨k.cell h.c0 hS, k.cell h.c1 hS, k.cell h.c2 hS, k.cell h.c3 hS, k.cell h.c4 hS, k.cell h.c5 hS, fun o => (k.fz h.lt hS).trans (h.fz o)⟩
theorem PBox.next {W W' : World} {B : Nat} {a0 a1 a2 a3 a4 a5 : Value} (h : PBox W B a0 a1 a2 a3 a4 a5) (k : Below W.heap.size W W') : PBox W' B a0 a1 a2 a3 a4 a5 := h.keep (S := fun _ => False) (Kp.of_below k) (fun h => h)
theorem PBox.put5 {W : World} {B : Nat} {a0 a1 a2 a3 a4 a5 b5 : Value} (h : PBox W B a0 a1 a2 a3 a4 a5) : PBox (W.setCell ⟨B, 5, none⟩ b5) B a0 a1 a2 a3 a4 b5 :=
  ⟨(World.cell?_setCell_other _ _ _ _ (by simp)).trans h.c0, (World.cell?_setCell_other _ _ _ _ (by simp)).trans h.c1, (World.cell?_setCell_other _ _ _ _ (by simp)).trans h.c2, (World.cell?_setCell_other _ _ _ _ (by simp)).trans h.c3, (World.cell?_setCell_other _ _ _ _ (by simp)).trans h.c4, World.cell?_setCell_same _ _ _ h.c5, fun o => by rw [World.frozen?_setCell]; exact h.fz o⟩
theorem kp6 {S : Nat → Prop} {W : World} {B : Nat} (hS : S B) (a0 a1 a2 a3 a4 a5 : Value) : Kp S W ((((((W.setCell ⟨B, 0, none⟩ a0).setCell ⟨B, 1, none⟩ a1).setCell ⟨B, 2, none⟩ a2).setCell ⟨B, 3, none⟩ a3).setCell ⟨B, 4, none⟩ a4).setCell ⟨B, 5, none⟩ a5) :=
  (((((Kp.set (p := ⟨B, 0, none⟩) hS).trans (Kp.set (p := ⟨B, 1, none⟩) hS)).trans (Kp.set (p := ⟨B, 2, none⟩) hS)).trans (Kp.set (p := ⟨B, 3, none⟩) hS)).trans (Kp.set (p := ⟨B, 4, none⟩) hS)).trans (Kp.set (p := ⟨B, 5, none⟩) hS)
theorem PBox.put6 {W : World} {B : Nat} {b0 b1 b2 b3 b4 b5 a0 a1 a2 a3 a4 a5 : Value} (h : PBox W B b0 b1 b2 b3 b4 b5) : PBox ((((((W.setCell ⟨B, 0, none⟩ a0).setCell ⟨B, 1, none⟩ a1).setCell ⟨B, 2, none⟩ a2).setCell ⟨B, 3, none⟩ a3).setCell ⟨B, 4, none⟩ a4).setCell ⟨B, 5, none⟩ a5) B a0 a1 a2 a3 a4 a5 := by
  have e0 := h.c0
  have e1 := h.c1
  have e2 := h.c2
  have e3 := h.c3
  have e4 := h.c4
  have e5 := h.c5
  exact ⟨by simp [go_sem, e0], by simp [go_sem, e1], by simp [go_sem, e2], by simp [go_sem, e3], by simp [go_sem, e4], by simp [go_sem, e5], fun o => by simp only [World.frozen?_setCell]; exact h.fz o⟩
theorem below6 {L : Nat} {w W : World} {B : Nat} (h : Below L w W) (hB : L ≤ B) (a0 a1 a2 a3 a4 a5 : Value) : Below L w ((((((W.setCell ⟨B, 0, none⟩ a0).setCell ⟨B, 1, none⟩ a1).setCell ⟨B, 2, none⟩ a2).setCell ⟨B, 3, none⟩ a3).setCell ⟨B, 4, none⟩ a4).setCell ⟨B, 5, none⟩ a5) :=
  (((((h.setCell (p := ⟨B, 0, none⟩) hB _).setCell (p := ⟨B, 1, none⟩) hB _).setCell (p := ⟨B, 2, none⟩) hB _).setCell (p := ⟨B, 3, none⟩) hB _).setCell (p := ⟨B, 4, none⟩) hB _).setCell (p := ⟨B, 5, none⟩) hB _

set_option maxRecDepth 100000 in
set_option maxHeartbeats 3200000 in
theorem pValuesR (fs : List Fn) (ap : Option Addr) (capp : Nat) (j : Nat) (af : Option Addr) (cf : Nat) (aa : Option Addr) (ca : Nat) (args : List Int) (w : World)
    (hpb : progB fs = true) (hj : j < fs.length) (hfl : fs.length ≤ 1048576) (hP : Pat w 0 w.heap.size fs ap) (hFo : Fat w 0 w.heap.size (fs.getD j noFn).outs af) (hA : At w aa args) (hN : Nums args) (hal : (args.length : Int) = (fs.getD j noFn).params) (hca : args.length ≤ ca) (hca2 : ca ≤ 9223372036854775807) :
    Calls Tryz.prog 89 #[.agg #[ofN, .slice ap fs.length capp, .string (fs.getD j noFn).name, .int .i64 (fs.getD j noFn).params, .slice af (fs.getD j noFn).outs.len cf, .slice aa args.length ca]] w fun e w' => ∃ v, e = .returned (.tuple #[v, .int .i64 (vaL fs j args).c]) ∧ Below w.heap.size w w' ∧ ((vaL fs j args).c = 0 → ∃ g, v = .slice (some ⟨g, 0, none⟩) (vaL fs j args).l.length (vaL fs j args).l.length ∧ Own w.heap.size w' g (vaL fs j args).l.length (vaL fs j args).l ∧ Nums (vaL fs j args).l) := by
  obtain ⟨w1, hw1⟩ : ∃ w1, w.alloc (.cells #[ofN, .slice ap fs.length capp, .string (fs.getD j noFn).name, .int .i64 (fs.getD j noFn).params, .slice af (fs.getD j noFn).outs.len cf, .slice aa args.length ca] 65) = w1 := ⟨_, rfl⟩
  have b1 : Below w.heap.size w w1 := by rw [← hw1]; exact (Below.refl _ _).alloc (Nat.le_refl _) _
  have p0 : w1.cell? ⟨w.heap.size, 0, none⟩ = some ofN := by rw [← hw1]; simp [go_sem]
  have p1 : w1.cell? ⟨w.heap.size, 1, none⟩ = some (.slice ap fs.length capp) := by rw [← hw1]; simp [go_sem]
  have p2 : w1.cell? ⟨w.heap.size, 2, none⟩ = some (.string (fs.getD j noFn).name) := by rw [← hw1]; simp [go_sem]
  have p3 : w1.cell? ⟨w.heap.size, 3, none⟩ = some (.int .i64 (fs.getD j noFn).params) := by rw [← hw1]; simp [go_sem]
  have p4 : w1.cell? ⟨w.heap.size, 4, none⟩ = some (.slice af (fs.getD j noFn).outs.len cf) := by rw [← hw1]; simp [go_sem]
  have p5 : w1.cell? ⟨w.heap.size, 5, none⟩ = some (.slice aa args.length ca) := by rw [← hw1]; simp [go_sem]
  have HV : Hid (Calls Tryz.prog 40 _ w1 (EvRes w1 (vaL fs j args))) := Lib.hid (iEvaluateN fs ap capp j af cf aa ca args w1 hpb hj hfl ((hP.below b1).mono (Nat.le_refl _) b1.size) ((hFo.agree (fun i _ h2 => b1.block i h2)).mono (Nat.le_refl _) b1.size) (hA.below b1 (Nat.le_refl _)) hN hal hca hca2)
  generalize vaL fs j args = r at HV ⊢
  clear hpb hj hP hFo hA hN hal
  generalize (fs.getD j noFn).name = nm at *
  generalize (fs.getD j noFn).params = pa at *
  generalize (fs.getD j noFn).outs.len = mo at *
  have hs1 := b1.size
  go_enter Tryz.func89, Tryz.ntmps89
  go_wp2_with fail
  clear hw1
  refine HV.out.mono ?_; rintro e w2 ⟨b2, ⟨hc, g, rfl, o, hN⟩ | ⟨hc, rfl⟩⟩
  · have HC := Lib.hid hc
    clear hc HV
    go_wp2_with fail
    go_ret2
    exact ⟨.slice (some ⟨g, 0, none⟩) r.l.length r.l.length, by rw [HC.out]; rfl, b1.trans (b2.mono hs1), fun _ => ⟨g, rfl, o.mono hs1, hN⟩⟩
  · have HC := Lib.hid hc
    clear hc HV
    go_wp2_with fail
    go_ret2
    exact ⟨_, rfl, b1.trans (b2.mono hs1), fun h => absurd h HC.out⟩

/-- the place after one round -/
def AfRes (fs : List Fn) (ap : Option Addr) (capp : Nat) (j : Nat) (af : Option Addr) (cf : Nat) (args : List Int) (w : World) (e : Ending) (w' : World) : Prop := Below w.heap.size w w' ∧
  ((¬ (vaL fs j args).c = 0 ∧ e = .returned (.tuple #[.agg #[.nilIface, .slice none 0 0, .string ⟨#[]⟩, .int .i64 0, .slice none 0 0, .slice none 0 0], .int .i64 (vaL fs j args).c])) ∨
   ((vaL fs j args).c = 0 ∧ ∃ g, e = .returned (.tuple #[.agg #[ofN, .slice ap fs.length capp, .string (fs.getD j noFn).name, .int .i64 (fs.getD j noFn).params, .slice af (fs.getD j noFn).outs.len cf, .slice (some ⟨g, 0, none⟩) (vaL fs j args).l.length (vaL fs j args).l.length], .int .i64 0]) ∧ Own w.heap.size w' g (vaL fs j args).l.length (vaL fs j args).l ∧ Nums (vaL fs j args).l))
set_option maxRecDepth 100000 in
set_option maxHeartbeats 3200000 in
theorem pAfter (fs : List Fn) (ap : Option Addr) (capp : Nat) (j : Nat) (af : Option Addr) (cf : Nat) (aa : Option Addr) (ca : Nat) (args : List Int) (w : World)
    (hpb : progB fs = true) (hj : j < fs.length) (hfl : fs.length ≤ 1048576) (hP : Pat w 0 w.heap.size fs ap) (hFo : Fat w 0 w.heap.size (fs.getD j noFn).outs af) (hA : At w aa args) (hN : Nums args) (hal : (args.length : Int) = (fs.getD j noFn).params) (hca : args.length ≤ ca) (hca2 : ca ≤ 9223372036854775807) :
    Calls Tryz.prog 88 #[.agg #[ofN, .slice ap fs.length capp, .string (fs.getD j noFn).name, .int .i64 (fs.getD j noFn).params, .slice af (fs.getD j noFn).outs.len cf, .slice aa args.length ca], .int .i64 1] w (AfRes fs ap capp j af cf args w) := by
  obtain ⟨w1, hw1⟩ : ∃ w1, (w.alloc (.cells #[ofN, .slice ap fs.length capp, .string (fs.getD j noFn).name, .int .i64 (fs.getD j noFn).params, .slice af (fs.getD j noFn).outs.len cf, .slice aa args.length ca] 67)).alloc (.cells #[.nilIface, .slice none 0 0, .string ⟨#[]⟩, .int .i64 0, .slice none 0 0, .slice none 0 0] 67) = w1 := ⟨_, rfl⟩
  have b1 : Below w.heap.size w w1 := by rw [← hw1]; exact ((Below.refl _ _).alloc (Nat.le_refl _) _).alloc (by simp) _
  have z1 : w1.heap.size = w.heap.size + 2 := by rw [← hw1]; simp
  have HP1 : Hid (PBox w1 w.heap.size ofN (.slice ap fs.length capp) (.string (fs.getD j noFn).name) (.int .i64 (fs.getD j noFn).params) (.slice af (fs.getD j noFn).outs.len cf) (.slice aa args.length ca)) := by
    show PBox _ _ _ _ _ _ _ _
    rw [← hw1]
    exact ⟨by simp [go_sem], by simp [go_sem], by simp [go_sem], by simp [go_sem], by simp [go_sem], by simp [go_sem], fun o => by simp [go_sem]⟩
  have HZ1 : Hid (PBox w1 (w.heap.size + 1) .nilIface (.slice none 0 0) (.string ⟨#[]⟩) (.int .i64 0) (.slice none 0 0) (.slice none 0 0)) := by
    show PBox _ _ _ _ _ _ _ _
    rw [← hw1]
    exact ⟨by simp [go_sem], by simp [go_sem], by simp [go_sem], by simp [go_sem], by simp [go_sem], by simp [go_sem], fun o => by simp [go_sem]⟩
  have HV := Lib.hid (pValuesR fs ap capp j af cf aa ca args w1 hpb hj hfl ((hP.below b1).mono (Nat.le_refl _) b1.size) ((hFo.agree (fun i _ h2 => b1.block i h2)).mono (Nat.le_refl _) b1.size) (hA.below b1 (Nat.le_refl _)) hN hal hca hca2)
  have HRA : Hid (∀ W, Below w.heap.size w W → ¬ (vaL fs j args).c = 0 → AfRes fs ap capp j af cf args w (.returned (.tuple #[.agg #[.nilIface, .slice none 0 0, .string ⟨#[]⟩, .int .i64 0, .slice none 0 0, .slice none 0 0], .int .i64 (vaL fs j args).c])) W) := fun W hW hn => ⟨hW, .inl ⟨hn, rfl⟩⟩
  have HRB : Hid (∀ W g, Below w.heap.size w W → (vaL fs j args).c = 0 → Own w.heap.size W g (vaL fs j args).l.length (vaL fs j args).l → Nums (vaL fs j args).l → AfRes fs ap capp j af cf args w (.returned (.tuple #[.agg #[ofN, .slice ap fs.length capp, .string (fs.getD j noFn).name, .int .i64 (fs.getD j noFn).params, .slice af (fs.getD j noFn).outs.len cf, .slice (some ⟨g, 0, none⟩) (vaL fs j args).l.length (vaL fs j args).l.length], .int .i64 0])) W) := fun W g hW hc ho hn => ⟨hW, .inr ⟨hc, g, rfl, ho, hn⟩⟩
  generalize AfRes fs ap capp j af cf args w = Q at *
  generalize vaL fs j args = r at *
  clear hpb hj hP hFo hA hN hal
  generalize (fs.getD j noFn).name = nm at *
  generalize (fs.getD j noFn).params = pa at *
  generalize (fs.getD j noFn).outs.len = mo at *
  have HB1 := Lib.hid b1
  have Z1 := Lib.hid z1
  clear b1 z1
  go_enter Tryz.func88, Tryz.ntmps88
  go_wp2_with fail
  clear hw1
  go_loopw [9] (fun x wr => (x = .int .i64 0 ∧ wr = w1) ∨ (x = .int .i64 1 ∧ ∃ g, Hid (r.c = 0) ∧ Hid (PBox wr w.heap.size ofN (.slice ap fs.length capp) (.string nm) (.int .i64 pa) (.slice af mo cf) (.slice (some ⟨g, 0, none⟩) r.l.length r.l.length)) ∧ Hid (PBox wr (w.heap.size + 1) .nilIface (.slice none 0 0) (.string ⟨#[]⟩) (.int .i64 0) (.slice none 0 0) (.slice none 0 0)) ∧ Hid (Own w.heap.size wr g r.l.length r.l) ∧ Hid (w.heap.size + 1 < g) ∧ Hid (Nums r.l) ∧ Hid (Below w.heap.size w wr))) (fun x _ => 1 - (intOf x).toNat)
  case atStart => exact .inl ⟨rfl, rfl⟩
  case round =>
    rcases hrel with ⟨rfl, rfl⟩ | ⟨rfl, g, HC, HP2, HZ2, HO, HG, HN, HB⟩
    · obtain ⟨p0, p1, p2, p3, p4, p5, pz⟩ := HP1.out
      go_wp2_with fail
      refine HV.out.mono ?_; rintro e w2 ⟨v, rfl, b2, hv⟩
      have hs1 := HB1.out.size
      have hz1 := Z1.out
      have HB2 := Lib.hid (HB1.out.trans (b2.mono hs1))
      have HP2 := Lib.hid (HP1.out.next b2)
      have HZ2 := Lib.hid (HZ1.out.next b2)
      clear HV p0 p1 p2 p3 p4 p5 pz b2
      by_cases hc : r.c = 0
      rotate_left
      · have hbf : (r.c != 0) = true := by simp [hc]
        have HN := Lib.hid hc
        obtain ⟨k0, k1, k2, k3, k4, k5, kz⟩ := HZ2.out
        have z0 := kz 0
        have z1 := kz 1
        have z2 := kz 2
        have z3 := kz 3
        have z4 := kz 4
        have z5 := kz 5
        have hs2 := HB2.out.size
        clear hc hv kz
        go_wp2_with fail
        exact bodyPost_ret (v := .tuple #[.agg #[.nilIface, .slice none 0 0, .string ⟨#[]⟩, .int .i64 0, .slice none 0 0, .slice none 0 0], .int .i64 r.c]) (by simp [results, Tryz.results88, go_sem, k0, k1, k2, k3, k4, k5]) rfl (HRA.out _ (below6 (B := w.heap.size + 1) HB2.out (by omega) _ _ _ _ _ _) HN.out)
      · have hbf : (r.c != 0) = false := by rw [hc]; rfl
        obtain ⟨g, rfl, o, hn⟩ := hv hc
        have HC := Lib.hid hc
        have p5 := HP2.out.c5
        have pz := HP2.out.fz 5
        have hg := o.base
        have E1 := Lib.hid (HP2.out.put5 (b5 := .slice (some ⟨g, 0, none⟩) r.l.length r.l.length))
        have E2 : Hid (PBox (w2.setCell ⟨w.heap.size, 5, none⟩ (.slice (some ⟨g, 0, none⟩) r.l.length r.l.length)) (w.heap.size + 1) .nilIface (.slice none 0 0) (.string ⟨#[]⟩) (.int .i64 0) (.slice none 0 0) (.slice none 0 0)) := HZ2.out.keep (S := fun b => b = w.heap.size) (Kp.set (p := ⟨w.heap.size, 5, none⟩) rfl) (by omega)
        have E3 := Lib.hid ((o.mono hs1).setOther (p := ⟨w.heap.size, 5, none⟩) (by show w.heap.size ≠ g; omega) (.slice (some ⟨g, 0, none⟩) r.l.length r.l.length))
        have E4 := Lib.hid (HB2.out.setCell (p := ⟨w.heap.size, 5, none⟩) (Nat.le_refl _) (.slice (some ⟨g, 0, none⟩) r.l.length r.l.length))
        have E5 : Hid (w.heap.size + 1 < g) := by show _ < _; omega
        have E6 := Lib.hid hn
        clear hc hv o hn hg
        go_wp2_with fail
        go_roundw
        case rel => exact .inr ⟨by go_num, g, HC, E1, E2, E3, E5, E6, E4⟩
        case measure => simp [intOf]
    · obtain ⟨p0, p1, p2, p3, p4, p5, pz⟩ := HP2.out
      obtain ⟨k0, k1, k2, k3, k4, k5, kz⟩ := HZ2.out
      have z0 := kz 0
      have z1 := kz 1
      have z2 := kz 2
      have z3 := kz 3
      have z4 := kz 4
      have z5 := kz 5
      clear kz pz
      go_wp2_with fail
      refine bodyPost_ret (v := .tuple #[.agg #[ofN, .slice ap fs.length capp, .string nm, .int .i64 pa, .slice af mo cf, .slice (some ⟨g, 0, none⟩) r.l.length r.l.length], .int .i64 0]) (by simp [results, Tryz.results88, go_sem, k0, k1, k2, k3, k4, k5]) rfl (HRB.out _ g (below6 (B := w.heap.size + 1) HB.out (by omega) _ _ _ _ _ _) HC.out ?_ HN.out)
      exact HO.out.owr.keep (kp6 (S := fun b => b = w.heap.size + 1) (B := w.heap.size + 1) rfl _ _ _ _ _ _) (fun p hp e => by cases hp; have := HG.out; have e2 : g = w.heap.size + 1 := e; omega)

end Go.Proofs.YtoedccgiahegnaaGreat
