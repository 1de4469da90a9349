/- Linear systems solved, by the program. -/
import Derived.Test.YtiimebiecihpkaaMxn
import Derived.Test.YtiimebiecihpkaaMxm
namespace Go.Proofs.Ytiimebiecihpkaa
open Go.RowKit
set_option linter.unusedVariables false

theorem Wd.rowP {n wd : Nat} : ∀ (f c : Nat) (ls : List (List Int)), Wd n wd ls → c + f = n → Wd n wd (rowP f c ls)
  | 0, _, _, h, _ => h
  | f + 1, c, ls, h, hc => by
    have hl := h.len
    cases hf : fnz ls c with
    | none => rw [rowP_none hf]; exact h
    | some r =>
      have hb := fnz_bd (by omega) hf
      rw [rowP_some hf]
      exact Wd.rowP f (c + 1) _ ((h.swp (by omega) (by omega)).clP (by omega) (by omega)) (by omega)

set_option maxRecDepth 100000 in
set_option maxHeartbeats 6400000 in
theorem iSolved (a : Option Addr) (ca : Nat) (b : Option Addr) (cb n wd : Nat) (ls ms : List (List Int)) (w : World) (ha : Mat w a ls) (hb : Mat w b ms) (h1 : ls.length = n) (h2 : ms.length = n) (hn : n ≤ 6) (hrow : ∀ i, i < n → 1 ≤ (ls.getD i []).length ∧ (ls.getD i []).length ≤ 6 ∧ (ms.getD i []).length ≤ 6)
    (hnil : ∀ (W : World) (p q : Nat) ai ci, Below w.heap.size w W → b = some ⟨p, q, none⟩ → ∀ i, i < n → W.cell? ⟨p, q + i, none⟩ = some (.slice ai (ms.getD i []).length ci) → ai = none → ms.getD i [] = [] ∧ ci = 0)
    (hw : Wd n wd (cat2 n ls ms)) (hnw : n < wd) :
    Calls Try.prog 85 #[ofN, .slice a n ca, .slice b n cb] w fun e w' => Below w.heap.size w w' ∧ ((detP n 0 (cat2 n ls ms) 1 = 0 ∧ e = .returned (.tuple #[.slice none 0 0, .int .i64 6])) ∨ (¬ detP n 0 (cat2 n ls ms) 1 = 0 ∧ ∃ g R K, e = .returned (.tuple #[.slice (some ⟨g, 0, none⟩) n n, .int .i64 0]) ∧ Mo w' w.heap.size g n n n (cutF n (rowP n 0 (cat2 n ls ms))) R K)) := by
  have HNM := Lib.hid (iNewMatrix a ca b cb n ls ms w ha hb h1 h2 hn hrow hnil)
  have HW := Lib.hid hw
  have hmf : ∀ (fn : Fn) (first cap : Array Value) (w : World), (Instr.makeFunc fn first cap).run Try.prog w = .ok (.func fn first cap) w := fun _ _ _ _ => rfl
  clear ha hb h1 h2 hrow hnil hw
  generalize cat2 n ls ms = M at *
  go_enter Try.func85, Try.ntmps85
  go_wp2_with fail
  refine HNM.out.mono ?_; rintro e w1 ⟨g, rfl, ⟨R, K, hm⟩, hb1⟩
  go_wp2_with fail
  obtain ⟨w2, hw2⟩ : ∃ w2, w2 = w1.alloc (.cells #[.slice (some ⟨g, 0, none⟩) n n, ofN] 133) := ⟨_, rfl⟩
  have B2 : Below w1.heap.size w1 w2 := by rw [hw2]; exact (Below.refl _ _).alloc (Nat.le_refl _) _
  have m0 : w2.cell? ⟨w1.heap.size, 0, none⟩ = some (.slice (some ⟨g, 0, none⟩) n n) := by rw [hw2]; simp [go_sem]
  have m1 : w2.cell? ⟨w1.heap.size, 1, none⟩ = some ofN := by rw [hw2]; simp [go_sem]
  have z2 : w2.heap.size = w1.heap.size + 1 := by rw [hw2]; simp
  have hm2 := hm.next B2
  have hgw := hm.base.2
  have hRw : ∀ i, i < n → R i < w1.heap.size := fun i hi => (hm.row i hi).base.2
  have HRD := Lib.hid (iReduce w.heap.size g n wd M R K w2.drew ⟨hm2.top, hm2.row, hm2.ne, hm2.inj⟩ HW.out)
  have HZ := fun (W : World) => Lib.hid (nZero (detP n 0 M 1) W)
  have HB2 := Lib.hid (hb1.trans (B2.mono hb1.size))
  have zA := zerAhead
  have zM := zerMeth
  rw [← hw2]
  clear hw2 HNM B2 hb1 hm hm2
  go_region_with (first
    | (go_at_call 243; refine (HZ _).out.mono ?_; rintro e w4 ⟨rfl, hb4⟩)
    | (go_at_call 150; refine HRD.out.mono ?_; rintro e w3 ⟨rfl, ⟨R3, K3, hm3⟩, hb3, hk3⟩))
  all_goals
    have hnb : ¬ Rgk g n R w1.heap.size := fun h => by rcases h with e | ⟨i, h1, h2⟩; omega; have := hRw i h1; omega
    have p3 := hk3.cell (show w2.drew.cell? ⟨w1.heap.size, 0, none⟩ = _ from m0) hnb
    have p4 := (hb4.cell (p := ⟨w1.heap.size, 0, none⟩) (cell_lt p3)).trans p3
    have hw3 : Below w.heap.size w w3 := HB2.out.trans ⟨hb3.os, hb3.tape, hb3.output, hb3.size, hb3.block⟩
    have HB4 := Lib.hid (hw3.trans (hb4.mono hw3.size))
    have HM4 := Lib.hid (hm3.next hb4)
    have HWR := Lib.hid (Wd.rowP n 0 M HW.out (by omega))
    have hz4 := HB4.out.size
    clear HRD HZ hm3 hb3 hk3 hb4 hw3 p3 zA zM m0 m1
    by_cases hz : detP n 0 M 1 = 0
    · have hzb : (detP n 0 M 1 == 0) = true := by simpa using hz
      have HZ := Lib.hid hz
      clear hz
      generalize detP n 0 M 1 = dd at hzb ⊢
      go_wp2_with fail
      go_ret2
      exact ⟨HB4.out, .inl ⟨HZ.out, rfl⟩⟩
    · have hzb : (detP n 0 M 1 == 0) = false := by simpa using hz
      have HZ := Lib.hid hz
      have HFR := Lib.hid (iFrom w.heap.size g n wd n (rowP n 0 M) R3 K3 w4 HM4.out HWR.out hnw)
      clear hz
      generalize detP n 0 M 1 = dd at hzb ⊢
      go_wp2_with fail
      refine HFR.out.mono ?_; rintro e w5 ⟨g5, rfl, ⟨R5, K5, hm5⟩, hb5⟩
      go_wp2_with fail
      go_ret2
      exact ⟨HB4.out.trans (hb5.mono hz4), .inr ⟨HZ.out, g5, R5, K5, rfl, hm5.mono hz4⟩⟩

end Go.Proofs.Ytiimebiecihpkaa
