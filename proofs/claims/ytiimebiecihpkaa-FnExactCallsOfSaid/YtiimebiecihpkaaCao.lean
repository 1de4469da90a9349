/- Functions that are called for a function: the model's answer. -/
import Derived.Test.YtiimebiecihpkaaCan
namespace Go.Proofs.Ytiimebiecihpkaa
open Go.RowKit
set_option linter.unusedVariables false

def cList (fs : List Fn) (f : Int) : List Int := if progB fs = true ∧ (0 ≤ f ∧ f < (fs.length : Int)) then allOf fs f.toNat else []
def cCode (fs : List Fn) (f : Int) : Int := if progB fs = true then (if 0 ≤ f ∧ f < (fs.length : Int) then 0 else 2) else 1
theorem allOf_len (fs : List Fn) {f : Nat} (hf : f < fs.length) : (allOf fs f).length ≤ fnsSize fs := by
  have key : ∀ (t : Nat), t ≤ fs.length → ∀ q : List Int, (allS fs t q).length ≤ q.length + fnsSize (fs.take t) := by
    intro t
    induction t with
    | zero => intro _ q; exact Nat.le_add_right _ _
    | succ t ih =>
      intro ht q
      have h1 := fnsSize_take (l := fs) (k := t) (by omega)
      have h2 := ih (by omega) (if (t : Int) ∈ q then callsF (fs.getD t noFn).outs q else q)
      show (allS fs t (if (t : Int) ∈ q then callsF (fs.getD t noFn).outs q else q)).length ≤ _
      have h3 := callsF_len (fs.getD t noFn).outs q
      unfold Fn.size at h1
      by_cases hm : (t : Int) ∈ q
      · rw [if_pos hm] at *; omega
      · rw [if_neg hm] at *; omega
  have h1 := key f (by omega) (callsF (fs.getD f noFn).outs [])
  have h2 := callsF_len (fs.getD f noFn).outs []
  have h3 := fnsSize_take hf
  have h4 := fnsSize_take_le fs (f + 1)
  have h5 : ([] : List Int).length = 0 := rfl
  unfold Fn.size at h3
  unfold allOf
  omega

set_option maxRecDepth 100000 in
set_option maxHeartbeats 3200000 in
theorem sAsked (fs : List Fn) (bp op : Nat) (ap : Option Addr) (capp : Nat) (f : Int) (w : World)
    (hp : w.cell? ⟨bp, op, none⟩ = some (.slice ap fs.length capp)) (hP : Pat w 0 w.heap.size fs ap) (hsz : pgSize fs ≤ 1048576) :
    Calls Try.prog 110 #[.pointer (some ⟨bp, op, none⟩), .int .i64 f] w (Quiet (.int .i64 (cCode fs f)) w) := by
  have hl : fs.length ≤ 1048576 := by unfold pgSize at hsz; omega
  have hli : (fs.length : Int) ≤ 1048576 := by omega
  have HO := Lib.hid (sOkP fs bp op ap capp w hp hP hsz)
  cases hpb : progB fs with
  | false =>
    have HF : Hid (cCode fs f = 1) := if_neg (by rw [hpb]; simp)
    rw [hpb] at HO
    clear hpb hP
    go_enter Try.func110, Try.ntmps110
    go_wp2_with fail
    refine (HO.out).mono ?_; rintro e w1 ⟨rfl, hq⟩
    obtain ⟨q, rfl⟩ := hq
    go_wp2_with fail
    go_ret
    exact ⟨ret_int HF.out.symm, q, rfl⟩
  | true =>
    rw [hpb] at HO
    by_cases h1 : 0 ≤ f ∧ f < (fs.length : Int)
    · have HF : Hid (cCode fs f = 0) := by show _ = _; unfold cCode; rw [if_pos hpb, if_pos h1]
      clear hpb hP
      go_enter Try.func110, Try.ntmps110
      go_wp2_with fail
      refine (HO.out).mono ?_; rintro e w1 ⟨rfl, hq⟩
      obtain ⟨q, rfl⟩ := hq
      go_wp2_with fail
      refine (inT f 0 ((fs.length : Int) - 1) h1.1 (by omega) _).mono ?_; rintro e w1 ⟨rfl, rfl⟩
      go_wp2_with fail
      go_ret
      exact ⟨ret_int HF.out.symm, q, rfl⟩
    · have HF : Hid (cCode fs f = 2) := by show _ = _; unfold cCode; rw [if_pos hpb, if_neg h1]
      clear hpb hP
      go_enter Try.func110, Try.ntmps110
      go_wp2_with fail
      refine (HO.out).mono ?_; rintro e w1 ⟨rfl, hq⟩
      obtain ⟨q, rfl⟩ := hq
      go_wp2_with fail
      refine (inF f 0 ((fs.length : Int) - 1) (by omega) _).mono ?_; rintro e w1 ⟨rfl, rfl⟩
      go_wp2_with fail
      go_ret
      exact ⟨ret_int HF.out.symm, q, rfl⟩

/-- The call answers a slice that reads as a list, and a code. -/
def ListCode (w : World) (l : List Int) (c : Int) (e : Ending) (w' : World) : Prop := ∃ a cap, e = .returned (.tuple #[.slice a l.length cap, .int .i64 c]) ∧ At w' a l ∧ Below w.heap.size w w'
theorem ret_sc {a : Option Addr} {n m cap : Nat} {c d : Int} (h : n = m) (h2 : c = d) : Ending.returned (.tuple #[.slice a n cap, .int .i64 c]) = .returned (.tuple #[.slice a m cap, .int .i64 d]) := by rw [h, h2]

set_option maxRecDepth 100000 in
set_option maxHeartbeats 3200000 in
theorem sCallsOf (fs : List Fn) (ap : Option Addr) (capp : Nat) (f : Int) (w : World) (hP : Pat w 0 w.heap.size fs ap) (hsz : pgSize fs ≤ 1048576) :
    Calls Try.prog 42 #[.agg #[.slice ap fs.length capp], .int .i64 f] w (ListCode w (cList fs f) (cCode fs f)) := by
  obtain ⟨w0, hw0⟩ : ∃ w0, w0 = w.alloc (.cells #[.slice ap fs.length capp] 49) := ⟨_, rfl⟩
  have hb0 : Below w.heap.size w w0 := by rw [hw0]; exact (Below.refl _ _).alloc (Nat.le_refl _) _
  have z0 : w0.heap.size = w.heap.size + 1 := by rw [hw0]; simp
  have c0 : w0.cell? ⟨w.heap.size, 0, none⟩ = some (.slice ap fs.length capp) := by rw [hw0]; simp [go_sem]
  have hP0 : Pat w0 0 w0.heap.size fs ap := (hP.below hb0).mono (Nat.le_refl _) hb0.size
  have HA := Lib.hid (sAsked fs w.heap.size 0 ap capp f w0 c0 hP0 hsz)
  by_cases hok : progB fs = true ∧ (0 ≤ f ∧ f < (fs.length : Int))
  · have HC : Hid (cCode fs f = 0) := by show _ = _; unfold cCode; rw [if_pos hok.1, if_pos hok.2]
    have HL : Hid (cList fs f = allOf fs f.toNat) := if_pos hok
    obtain ⟨j, rfl⟩ := Int.eq_ofNat_of_zero_le hok.2.1
    have hj : j < fs.length := by omega
    rw [HC.out] at HA
    have HAl := fun (W : World) (hW : Below w0.heap.size w0 W) => Lib.hid (sAll fs w.heap.size 0 ap capp j W ((hW.cell (p := ⟨w.heap.size, 0, none⟩) (by show w.heap.size < _; omega)).trans c0) ((hP0.below hW).mono (Nat.le_refl _) hW.size) hj hsz)
    clear hok hP hP0
    go_enter Try.func42, Try.ntmps42
    go_wp2_with fail
    rw [← hw0]
    clear hw0
    refine (HA.out).mono ?_; rintro e w1 ⟨rfl, hq⟩
    obtain ⟨q, rfl⟩ := hq
    go_wp2_with fail
    refine (HAl _ (below_drewN (Below.refl _ _) q)).out.mono ?_; rintro e w2 ⟨a, cap, rfl, hA2, hb2⟩
    have hB2 : Below w.heap.size w w2 := hb0.trans ((below_drewN (Below.refl _ _) q).trans (hb2.mono (by show w.heap.size ≤ w0.heap.size; omega)))
    have HL2 : Hid (cList fs (j : Int) = allOf fs j) := HL.out
    clear HA HAl HL
    go_wp2_with fail
    go_ret2
    exact ⟨a, cap, ret_sc (by rw [HL2.out]) HC.out.symm, by rw [HL2.out]; exact hA2, hB2⟩
  · have HL : Hid (cList fs f = []) := if_neg hok
    have hne : (cCode fs f != 0) = true := by
      have : cCode fs f ≠ 0 := by
        unfold cCode
        by_cases hp : progB fs = true
        · rw [if_pos hp, if_neg (fun h => hok ⟨hp, h⟩)]; omega
        · rw [if_neg hp]; omega
      simpa using this
    clear hok hP hP0
    generalize cCode fs f = c at HA hne
    go_enter Try.func42, Try.ntmps42
    go_wp2_with fail
    rw [← hw0]
    clear hw0
    refine (HA.out).mono ?_; rintro e w1 ⟨rfl, hq⟩
    obtain ⟨q, rfl⟩ := hq
    go_wp2_with fail
    go_ret2
    exact ⟨_, _, ret_sc (by rw [HL.out]; rfl) rfl, by rw [HL.out]; exact .inl rfl, (below_drewN hb0 q).alloc (by show w.heap.size ≤ w0.heap.size; omega) _⟩

end Go.Proofs.Ytiimebiecihpkaa
