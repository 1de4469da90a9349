/- Rows (Term): comparisons, as the laws make them. -/
import Derived.StillTailTactics
import Derived.Test.YtggojffmfjeikaaPyb
namespace Go.Proofs.Ytggojffmfjeikaa
open Go.RowKit
set_option linter.unusedVariables false


set_option maxRecDepth 100000 in
set_option maxHeartbeats 1600000 in
theorem eqTerm (f : Tm) (a b : Option Addr) (ca cb : Nat) (w : World) (hO : Oat w 0 w.heap.size f.exps a) (hQ : Oat w 0 w.heap.size f.exps b) (hs : f.exps.length ≤ 1048576) :
    Calls Try.prog 79 #[.agg #[.slice a f.exps.length ca, .int .i64 f.coef], .agg #[.slice b f.exps.length cb, .int .i64 f.coef]] w fun e w' => e = .returned (.bool true) ∧ Below w.heap.size w w' := by
  have B1 : ∀ o, Below w.heap.size w (w.alloc o) := fun o => (Below.refl _ _).alloc (Nat.le_refl _) o
  have e1 : (f.coef != f.coef) = false := by simp
  go_enter Try.func79, Try.ntmps79
  go_wp2_with fail
  refine (eqInt64S a b ca cb f.exps _ ((hO.below ((B1 _).alloc (by simp) _)).at (by simp; omega)) ((hQ.below ((B1 _).alloc (by simp) _)).at (by simp; omega)) (by omega)).mono ?_; rintro e w' ⟨rfl, hb⟩
  have hB := ((B1 _).alloc (by simp) _).trans (hb.mono (by simp; omega))
  have hz := hb.size
  simp at hz
  obtain ⟨hc, hf⟩ := tbcell hb
  go_wp2_with fail
  go_ret
  exact ⟨rfl, hB⟩

set_option maxRecDepth 100000 in
set_option maxHeartbeats 1600000 in
theorem eqTermS (l : List Tm) (a b : Option Addr) (ca cb : Nat) (w : World) (hP : TmAt w 0 w.heap.size l a) (hQ : TmAt w 0 w.heap.size l b) (hs : tmSize l ≤ 1048576) :
    Calls Try.prog 40 #[.slice a l.length ca, .slice b l.length cb] w fun e w' => e = .returned (.bool true) ∧ Below w.heap.size w w' := by
  have hlen2 : l.length ≤ 1048576 := by unfold tmSize at hs; omega
  have HA := Lib.hid (show ∀ k, k < l.length → (l.getD k noTm).exps.length ≤ 1048576 from fun k hk => by have := tmSum_le hk; unfold tmSize at hs; omega)
  clear hs
  go_enter Try.func40, Try.ntmps40
  go_wp2_with fail
  go_loopw [5] (fun i wr => ∃ k : Nat, k ≤ l.length ∧ i = .int .i64 k ∧ Below w.heap.size w wr) (fun i _ => l.length - (intOf i).toNat)
  case atStart => exact ⟨0, Nat.zero_le _, rfl, Below.refl _ _⟩
  case round =>
    obtain ⟨k, hk, rfl, hw⟩ := hrel
    by_cases hlt : k < l.length
    · obtain ⟨b1, o1, rfl, hbB1, hall1⟩ := ((hP.below hw).resolve_left (by intro e; rw [e] at hlt; simp at hlt))
      obtain ⟨b2, o2, rfl, hbB2, hall2⟩ := ((hQ.below hw).resolve_left (by intro e; rw [e] at hlt; simp at hlt))
      obtain ⟨hr, a', cap', c0, c1, hk1⟩ := hall1 k hlt
      obtain ⟨_, a2', cap2', f0, f1, hk2⟩ := hall2 k hlt
      have HC := Lib.hid (fun W (hW : Below wr.heap.size wr W) => eqTerm (l.getD k noTm) a' a2' cap' cap2' W ((hk1.mono (Nat.le_refl _) hw.size).below hW |>.mono (Nat.le_refl _) hW.size) ((hk2.mono (Nat.le_refl _) hw.size).below hW |>.mono (Nat.le_refl _) hW.size) (HA.out k hlt))
      have hi : (k : Int) < (l.length : Int) := by omega
      clear hk1 hk2 hall1 hall2 hP hQ hr HA
      generalize l.getD k noTm = f at c0 c1 f0 f1 HC
      go_wp2_with fail
      go_still_tail 8, (by kernel_rfl)
      change wpList _ _ _ _ _ wr.drew
      have hdw : Below wr.heap.size wr wr.drew := ⟨rfl, rfl, rfl, Nat.le_refl _, fun _ _ => rfl⟩
      have HC2 := Lib.hid (HC.out _ hdw)
      clear HC
      generalize wr.drew = w2 at hdw HC2 ⊢
      clear c0 c1 f0 f1
      go_wp2_with fail
      refine (HC2.out).mono ?_; rintro e w' ⟨rfl, hb⟩
      have hw2 := (hw.trans (hdw.mono hw.size)).trans (hb.mono (Nat.le_trans hw.size hdw.size))
      clear HC2
      go_wp2_with fail
      go_roundw
      case rel => exact ⟨k + 1, by omega, by go_num, hw2⟩
      case measure => simp [intOf]; omega
    · have hi : ¬ (k : Int) < (l.length : Int) := by omega
      go_wp2_with fail
      go_ret
      exact ⟨rfl, hw⟩

end Go.Proofs.Ytggojffmfjeikaa
