/- The program: the index of a name. -/
import Derived.Test.YtldbhhocoolloaaGreatIh
namespace Go.Proofs.YtldbhhocoolloaaGreat
open Go.RowKit
set_option linter.unusedVariables false

/-- The first of n functions with a name, or -1. -/
def IdxIs (fs : List Fn) (s : ByteArray) (n : Nat) (r : Int) : Prop :=
  (r = -1 ∧ ∀ j, j < n → (fs.getD j noFn).name ≠ s) ∨ (∃ j, j < n ∧ r = (j : Int) ∧ (fs.getD j noFn).name = s ∧ ∀ t, t < j → (fs.getD t noFn).name ≠ s)
def IdxRes (fs : List Fn) (s : ByteArray) (n : Nat) (w : World) (e : Ending) (w' : World) : Prop := ∃ r, e = .returned (.int .i64 r) ∧ IdxIs fs s n r ∧ Below w.heap.size w w'

set_option maxRecDepth 100000 in
set_option maxHeartbeats 1600000 in
theorem iSearch (fs : List Fn) (ap : Option Addr) (fn capp : Nat) (s : ByteArray) (b : Nat) (w : World) (hP : Pat w 0 w.heap.size fs ap) (hfn : fn ≤ fs.length) (hl : fs.length ≤ 1048576) (hb : b < w.heap.size) (hc : w.cell? ⟨b, 0, none⟩ = some (.string s)) :
    Calls Tryz.prog 160 #[.slice ap fn capp, .func (Fn.func 161) #[] #[.pointer (some ⟨b, 0, none⟩)]] w (IdxRes fs s fn w) := by
  have hfi : (fn : Int) ≤ 1048576 := by omega
  go_enter Tryz.func160, Tryz.ntmps160
  go_wp2_with fail
  go_loopw [8] (fun q wr => ∃ i : Nat, i ≤ fn ∧ q = .int .i64 i ∧ Hid (∀ t, t < i → (fs.getD t noFn).name ≠ s) ∧ Below w.heap.size w wr) (fun q _ => fn - (intOf q).toNat)
  case atStart => exact ⟨0, Nat.zero_le _, rfl, (fun t ht => by omega), Below.refl _ _⟩
  case round =>
    obtain ⟨i, hi, rfl, HX, hw⟩ := hrel
    by_cases hlt : i < fn
    · have hii : (i : Int) < (fn : Int) := by omega
      obtain ⟨bf, of, rfl, hbB, hall⟩ := ((hP.below hw).resolve_left (by intro e; rw [e] at hfn; simp at hfn; omega))
      obtain ⟨hr, af, cf, f0, f1, f2, _⟩ := hall i (by omega)
      have hcw := (hw.cell (p := ⟨b, 0, none⟩) hb).trans hc
      have hbw : b < wr.heap.size := Nat.lt_of_lt_of_le hb hw.size
      have hB1 : ∀ o, Below w.heap.size w (wr.alloc o) := fun o => hw.alloc hw.size o
      by_cases heq : (fs.getD i noFn).name = s
      · have HI : Hid (IdxIs fs s fn (i : Int)) := .inr ⟨i, hlt, rfl, heq, HX.out⟩
        rw [heq] at f0
        clear hall hP hr HX heq hc
        generalize (fs.getD i noFn).params = pa at f1
        generalize (fs.getD i noFn).outs.len = mo at f2
        go_wp2
        go_ret
        exact ⟨_, rfl, HI.out, hB1 _⟩
      · have HX2 : Hid (∀ t, t < i + 1 → (fs.getD t noFn).name ≠ s) := by
          intro t ht
          by_cases hti : t = i
          · rw [hti]; exact heq
          · exact HX.out t (by omega)
        generalize (fs.getD i noFn).name = nm at f0 heq
        have hq := str_ne heq
        clear hall hP hr HX heq hc
        generalize (fs.getD i noFn).params = pa at f1
        generalize (fs.getD i noFn).outs.len = mo at f2
        go_wp2
        go_roundw
        case rel => exact ⟨i + 1, by omega, by go_num, HX2, hB1 _⟩
        case measure => simp [intOf]; omega
    · have hii : ¬ (i : Int) < (fn : Int) := by omega
      have HI : Hid (IdxIs fs s fn (-1)) := .inl ⟨rfl, fun j hj => HX.out j (by omega)⟩
      clear hP HX
      go_wp2_with fail
      go_ret
      exact ⟨_, rfl, HI.out, hw⟩

set_option maxRecDepth 100000 in
set_option maxHeartbeats 1600000 in
theorem iIndexOf (fs : List Fn) (ap : Option Addr) (fn capp : Nat) (s : ByteArray) (w : World) (hP : Pat w 0 w.heap.size fs ap) (hfn : fn ≤ fs.length) (hl : fs.length ≤ 1048576) :
    Calls Tryz.prog 144 #[.slice ap fn capp, .string s] w (IdxRes fs s fn w) := by
  have hB1 : ∀ o, Below w.heap.size w (w.alloc o) := fun o => (Below.refl _ _).alloc (Nat.le_refl _) o
  have HC := Lib.hid (iSearch fs ap fn capp s w.heap.size (w.alloc (.cells #[.string s] 9)) ((hP.below (hB1 _)).mono (Nat.le_refl _) (by simp)) hfn hl (by simp) (by simp [go_sem]))
  clear hP
  go_enter Tryz.func144, Tryz.ntmps144
  go_wp2_with fail
  refine (HC.out).mono ?_; rintro e w' ⟨r, rfl, hI, hb⟩
  have hI2 := Lib.hid hI
  clear hI
  go_wp2_with fail
  go_ret
  exact ⟨r, rfl, hI2.out, (hB1 _).trans (hb.mono (by simp))⟩

end Go.Proofs.YtldbhhocoolloaaGreat
