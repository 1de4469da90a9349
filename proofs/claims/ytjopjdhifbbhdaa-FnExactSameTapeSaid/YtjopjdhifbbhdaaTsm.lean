/- Tapes: which ones are the same, by the model and by the program. -/
import Derived.Test.YtjopjdhifbbhdaaTal
import Derived.Test.YtjopjdhifbbhdaaTai
import Derived.Laws.StructEq
import Derived.BigQuiet
namespace Go.Proofs.Ytjopjdhifbbhdaa
open Go.RowKit
set_option linter.unusedVariables false

abbrev in4v (x : In4) : Value := .agg #[.int .i64 x.op, .int .i64 x.a, .int .i64 x.b, .int .i64 x.num]
abbrev grdv (x : Gd) : Value := .agg #[.int .i64 x.reg, .bool x.zero]
def eqI (x y : In4) : Bool := x.op == y.op && (x.a == y.a && (x.b == y.b && x.num == y.num))
def eqGd (x y : Gd) : Bool := x.reg == y.reg && x.zero == y.zero
set_option maxRecDepth 100000 in
theorem neqI (x y : In4) (W : World) : (binOp .neq 59 (in4v x) (in4v y)).run Try.prog W = .ok (.bool (!eqI x y)) W := by
  rw [run_neq_struct]
  rw [show (10000 : Nat) = 9998 + 1 + 1 from rfl, run_equalIn_struct W (9998 + 1) _ _ _ (by kernel_rfl) (by kernel_rfl)]
  simp [Program.fieldsOf, Try.underlying59, Op.eqFields, go_sem, Try.underlying2]
  unfold eqI
  by_cases h1 : x.op = y.op <;> by_cases h2 : x.a = y.a <;> by_cases h3 : x.b = y.b <;> by_cases h4 : x.num = y.num <;> simp [h1, h2, h3, h4]
set_option maxRecDepth 100000 in
theorem neqGd (x y : Gd) (W : World) : (binOp .neq 67 (grdv x) (grdv y)).run Try.prog W = .ok (.bool (!eqGd x y)) W := by
  rw [run_neq_struct]
  rw [show (10000 : Nat) = 9998 + 1 + 1 from rfl, run_equalIn_struct W (9998 + 1) _ _ _ (by kernel_rfl) (by kernel_rfl)]
  simp [Program.fieldsOf, Try.underlying67, Op.eqFields, go_sem, Try.underlying2, Try.underlying4]
  unfold eqGd
  by_cases h1 : x.reg = y.reg <;> by_cases h2 : x.zero = y.zero <;> simp [h1, h2]

/-- two lists of one length whose elements are the same -/
def sameL {T : Type} (q : T → T → Bool) (d : T) (l m : List T) : Bool := decide (l.length = m.length) && (List.range l.length).all fun i => q (l.getD i d) (m.getD i d)
theorem sameL_len {T : Type} {q : T → T → Bool} {d : T} {l m : List T} (h : ¬ l.length = m.length) : sameL q d l m = false := by unfold sameL; rw [decide_eq_false h, Bool.false_and]
theorem sameL_ne {T : Type} {q : T → T → Bool} {d : T} {l m : List T} {i : Nat} (hi : i < l.length) (h : q (l.getD i d) (m.getD i d) = false) : sameL q d l m = false := by
  unfold sameL; rw [allB_f (f := fun i => q (l.getD i d) (m.getD i d)) hi h, Bool.and_false]
theorem sameL_all {T : Type} {q : T → T → Bool} {d : T} {l m : List T} (h : l.length = m.length) (h2 : ∀ i, i < l.length → q (l.getD i d) (m.getD i d) = true) : sameL q d l m = true := by
  unfold sameL; rw [allB_t (f := fun i => q (l.getD i d) (m.getD i d)) h2, decide_eq_true h]; rfl
def eqN (x y : Int) : Bool := x == y

set_option maxRecDepth 100000 in
set_option maxHeartbeats 1600000 in
theorem sSame (a b : Option Addr) (ca cb : Nat) (l m : List Int) (w : World) (ha : At w a l) (hb : At w b m) (hl : l.length ≤ 1048576) (hm : m.length ≤ 1048576) :
    Calls Try.prog 51 #[.slice a l.length ca, .slice b m.length cb] w fun e w' => e = .returned (.bool (sameL eqN 0 l m)) ∧ Below w.heap.size w w' := by
  by_cases h : l.length = m.length
  · have HL := Lib.hid h
    have hne : ((l.length : Int) != (m.length : Int)) = false := by simp [h]
    clear h
    go_enter Try.func51, Try.ntmps51
    go_wp2_with fail
    go_loopw [5] (fun q wr => ∃ i : Nat, i ≤ l.length ∧ q = .int .i64 i ∧ Hid (∀ j, j < i → eqN (l.getD j 0) (m.getD j 0) = true) ∧ Below w.heap.size w wr) (fun q _ => l.length - (intOf q).toNat)
    case atStart => exact ⟨0, Nat.zero_le _, rfl, (fun j hj => by omega), Below.refl _ _⟩
    case round =>
      obtain ⟨i, hi, rfl, HX, hw⟩ := hrel
      by_cases hlt : i < l.length
      · have hlt2 : i < m.length := by have := HL.out; omega
        have hii : (i : Int) < (l.length : Int) := by omega
        have hii2 : (i : Int) < (m.length : Int) := by omega
        obtain ⟨b1, o1, rfl, hb1, hall1⟩ := ((ha.below hw (Nat.le_refl _)).resolve_left (by intro e; rw [e] at hlt; simp at hlt))
        obtain ⟨b2, o2, rfl, hb2, hall2⟩ := ((hb.below hw (Nat.le_refl _)).resolve_left (by intro e; rw [e] at hlt2; simp at hlt2))
        have f0 := hall1 i hlt
        have f1 := hall2 i hlt2
        clear hall1 hall2
        cases hq : eqN (l.getD i 0) (m.getD i 0) with
        | true =>
          have HX2 : Hid (∀ j, j < i + 1 → eqN (l.getD j 0) (m.getD j 0) = true) := by
            intro j hj
            by_cases hji : j = i
            · rw [hji]; exact hq
            · exact HX.out j (by omega)
          have hxy : (l.getD i 0 != m.getD i 0) = false := by unfold eqN at hq; rw [bne, hq]; rfl
          clear hq HX ha hb
          generalize l.getD i 0 = x at *
          generalize m.getD i 0 = y at *
          go_wp2_with fail
          go_quiet (fail)
          go_wp2_with fail
          go_roundw
          case rel => exact ⟨i + 1, by omega, by go_num, HX2, below_drewN hw _⟩
          case measure => simp [intOf]; omega
        | false =>
          have HF : Hid (sameL eqN 0 l m = false) := sameL_ne hlt hq
          have hxy : (l.getD i 0 != m.getD i 0) = true := by unfold eqN at hq; rw [bne, hq]; rfl
          clear hq HX ha hb
          generalize l.getD i 0 = x at *
          generalize m.getD i 0 = y at *
          go_wp2_with fail
          go_quiet (fail)
          go_wp2_with fail
          go_ret
          exact ⟨ret_bool HF.out.symm, below_drewN hw _⟩
      · have hii : ¬ (i : Int) < (l.length : Int) := by omega
        have HF : Hid (sameL eqN 0 l m = true) := sameL_all HL.out (fun j hj => HX.out j (by omega))
        clear HX ha hb
        go_wp2_with fail
        go_ret
        exact ⟨ret_bool HF.out.symm, hw⟩
  · have HF : Hid (sameL eqN 0 l m = false) := sameL_len h
    have hne : ((l.length : Int) != (m.length : Int)) = true := by simp [bne]; omega
    clear h
    go_enter Try.func51, Try.ntmps51
    go_wp2_with fail
    go_ret
    exact ⟨ret_bool HF.out.symm, Below.refl _ _⟩

set_option maxRecDepth 100000 in
set_option maxHeartbeats 1600000 in
theorem iEqInts (a b : Option Addr) (ca cb : Nat) (l m : List Int) (w : World) (ha : At w a l) (hb : At w b m) (hl : l.length ≤ 1048576) (hm : m.length ≤ 1048576) :
    Calls Try.prog 54 #[.slice a l.length ca, .slice b m.length cb] w fun e w' => e = .returned (.bool (sameL eqN 0 l m)) ∧ Below w.heap.size w w' := by
  by_cases h : l.length = m.length
  · have HL := Lib.hid h
    have hne : ((l.length : Int) != (m.length : Int)) = false := by simp [h]
    clear h
    go_enter Try.func54, Try.ntmps54
    go_wp2_with fail
    go_loopw [13] (fun q wr => ∃ i : Nat, i ≤ l.length ∧ q = .int .i64 i ∧ Hid (∀ j, j < i → eqN (l.getD j 0) (m.getD j 0) = true) ∧ Below w.heap.size w wr) (fun q _ => l.length - (intOf q).toNat)
    case atStart => exact ⟨0, Nat.zero_le _, rfl, (fun j hj => by omega), Below.refl _ _⟩
    case round =>
      obtain ⟨i, hi, rfl, HX, hw⟩ := hrel
      by_cases hlt : i < l.length
      · have hlt2 : i < m.length := by have := HL.out; omega
        have hii : (i : Int) < (l.length : Int) := by omega
        have hii2 : (i : Int) < (m.length : Int) := by omega
        obtain ⟨b1, o1, rfl, hb1, hall1⟩ := ((ha.below hw (Nat.le_refl _)).resolve_left (by intro e; rw [e] at hlt; simp at hlt))
        obtain ⟨b2, o2, rfl, hb2, hall2⟩ := ((hb.below hw (Nat.le_refl _)).resolve_left (by intro e; rw [e] at hlt2; simp at hlt2))
        have f0 := hall1 i hlt
        have f1 := hall2 i hlt2
        clear hall1 hall2
        cases hq : eqN (l.getD i 0) (m.getD i 0) with
        | true =>
          have HX2 : Hid (∀ j, j < i + 1 → eqN (l.getD j 0) (m.getD j 0) = true) := by
            intro j hj
            by_cases hji : j = i
            · rw [hji]; exact hq
            · exact HX.out j (by omega)
          have hxy : (l.getD i 0 != m.getD i 0) = false := by unfold eqN at hq; rw [bne, hq]; rfl
          clear hq HX ha hb
          generalize l.getD i 0 = x at *
          generalize m.getD i 0 = y at *
          go_wp2_with fail
          go_quiet (fail)
          go_wp2_with fail
          go_roundw
          case rel => exact ⟨i + 1, by omega, by go_num, HX2, below_drewN hw _⟩
          case measure => simp [intOf]; omega
        | false =>
          have HF : Hid (sameL eqN 0 l m = false) := sameL_ne hlt hq
          have hxy : (l.getD i 0 != m.getD i 0) = true := by unfold eqN at hq; rw [bne, hq]; rfl
          clear hq HX ha hb
          generalize l.getD i 0 = x at *
          generalize m.getD i 0 = y at *
          go_wp2_with fail
          go_quiet (fail)
          go_wp2_with fail
          go_ret
          exact ⟨ret_bool HF.out.symm, below_drewN hw _⟩
      · have hii : ¬ (i : Int) < (l.length : Int) := by omega
        have HF : Hid (sameL eqN 0 l m = true) := sameL_all HL.out (fun j hj => HX.out j (by omega))
        clear HX ha hb
        go_wp2_with fail
        go_ret
        exact ⟨ret_bool HF.out.symm, hw⟩
  · have HF : Hid (sameL eqN 0 l m = false) := sameL_len h
    have hne : ((l.length : Int) != (m.length : Int)) = true := by simp [bne]; omega
    clear h
    go_enter Try.func54, Try.ntmps54
    go_wp2_with fail
    go_ret
    exact ⟨ret_bool HF.out.symm, Below.refl _ _⟩

set_option maxRecDepth 100000 in
set_option maxHeartbeats 1600000 in
theorem iEqCode (a b : Option Addr) (ca cb : Nat) (l m : List In4) (w : World) (ha : Cat w 0 w.heap.size l a) (hb : Cat w 0 w.heap.size m b) (hl : l.length ≤ 1048576) (hm : m.length ≤ 1048576) :
    Calls Try.prog 52 #[.slice a l.length ca, .slice b m.length cb] w fun e w' => e = .returned (.bool (sameL eqI no4 l m)) ∧ Below w.heap.size w w' := by
  by_cases h : l.length = m.length
  · have HL := Lib.hid h
    have hne : ((l.length : Int) != (m.length : Int)) = false := by simp [h]
    clear h
    go_enter Try.func52, Try.ntmps52
    go_wp2_with fail
    go_loopw [13] (fun q wr => ∃ i : Nat, i ≤ l.length ∧ q = .int .i64 i ∧ Hid (∀ j, j < i → eqI (l.getD j no4) (m.getD j no4) = true) ∧ Below w.heap.size w wr) (fun q _ => l.length - (intOf q).toNat)
    case atStart => exact ⟨0, Nat.zero_le _, rfl, (fun j hj => by omega), Below.refl _ _⟩
    case round =>
      obtain ⟨i, hi, rfl, HX, hw⟩ := hrel
      by_cases hlt : i < l.length
      · have hlt2 : i < m.length := by have := HL.out; omega
        have hii : (i : Int) < (l.length : Int) := by omega
        have hii2 : (i : Int) < (m.length : Int) := by omega
        obtain ⟨b1, o1, rfl, hb1, hall1⟩ := ((ha.below hw).resolve_left (by intro e; rw [e] at hlt; simp at hlt))
        obtain ⟨b2, o2, rfl, hb2, hall2⟩ := ((hb.below hw).resolve_left (by intro e; rw [e] at hlt2; simp at hlt2))
        obtain ⟨hr, f0, f1, f2, f3⟩ := hall1 i hlt
        obtain ⟨hr2, e0, e1, e2, e3⟩ := hall2 i hlt2
        have HQ := neqI (l.getD i no4) (m.getD i no4)
        clear hall1 hall2 hr hr2
        cases hq : eqI (l.getD i no4) (m.getD i no4) with
        | true =>
          have HX2 : Hid (∀ j, j < i + 1 → eqI (l.getD j no4) (m.getD j no4) = true) := by
            intro j hj
            by_cases hji : j = i
            · rw [hji]; exact hq
            · exact HX.out j (by omega)
          rw [hq] at HQ
          clear hq HX ha hb
          generalize l.getD i no4 = x at *
          generalize m.getD i no4 = y at *
          go_wp2_with fail
          go_quiet (fail)
          go_wp2_with fail
          go_roundw
          case rel => exact ⟨i + 1, by omega, by go_num, HX2, below_drewN hw _⟩
          case measure => simp [intOf]; omega
        | false =>
          have HF : Hid (sameL eqI no4 l m = false) := sameL_ne hlt hq
          rw [hq] at HQ
          clear hq HX ha hb
          generalize l.getD i no4 = x at *
          generalize m.getD i no4 = y at *
          go_wp2_with fail
          go_quiet (fail)
          go_wp2_with fail
          go_ret
          exact ⟨ret_bool HF.out.symm, below_drewN hw _⟩
      · have hii : ¬ (i : Int) < (l.length : Int) := by omega
        have HF : Hid (sameL eqI no4 l m = true) := sameL_all HL.out (fun j hj => HX.out j (by omega))
        clear HX ha hb
        go_wp2_with fail
        go_ret
        exact ⟨ret_bool HF.out.symm, hw⟩
  · have HF : Hid (sameL eqI no4 l m = false) := sameL_len h
    have hne : ((l.length : Int) != (m.length : Int)) = true := by simp [bne]; omega
    clear h
    go_enter Try.func52, Try.ntmps52
    go_wp2_with fail
    go_ret
    exact ⟨ret_bool HF.out.symm, Below.refl _ _⟩

set_option maxRecDepth 100000 in
set_option maxHeartbeats 1600000 in
theorem iEqGuards (a b : Option Addr) (ca cb : Nat) (l m : List Gd) (w : World) (ha : Gat w 0 w.heap.size l a) (hb : Gat w 0 w.heap.size m b) (hl : l.length ≤ 1048576) (hm : m.length ≤ 1048576) :
    Calls Try.prog 53 #[.slice a l.length ca, .slice b m.length cb] w fun e w' => e = .returned (.bool (sameL eqGd noG l m)) ∧ Below w.heap.size w w' := by
  by_cases h : l.length = m.length
  · have HL := Lib.hid h
    have hne : ((l.length : Int) != (m.length : Int)) = false := by simp [h]
    clear h
    go_enter Try.func53, Try.ntmps53
    go_wp2_with fail
    go_loopw [13] (fun q wr => ∃ i : Nat, i ≤ l.length ∧ q = .int .i64 i ∧ Hid (∀ j, j < i → eqGd (l.getD j noG) (m.getD j noG) = true) ∧ Below w.heap.size w wr) (fun q _ => l.length - (intOf q).toNat)
    case atStart => exact ⟨0, Nat.zero_le _, rfl, (fun j hj => by omega), Below.refl _ _⟩
    case round =>
      obtain ⟨i, hi, rfl, HX, hw⟩ := hrel
      by_cases hlt : i < l.length
      · have hlt2 : i < m.length := by have := HL.out; omega
        have hii : (i : Int) < (l.length : Int) := by omega
        have hii2 : (i : Int) < (m.length : Int) := by omega
        obtain ⟨b1, o1, rfl, hb1, hall1⟩ := ((ha.below hw).resolve_left (by intro e; rw [e] at hlt; simp at hlt))
        obtain ⟨b2, o2, rfl, hb2, hall2⟩ := ((hb.below hw).resolve_left (by intro e; rw [e] at hlt2; simp at hlt2))
        obtain ⟨hr, f0, f1⟩ := hall1 i hlt
        obtain ⟨hr2, e0, e1⟩ := hall2 i hlt2
        have HQ := neqGd (l.getD i noG) (m.getD i noG)
        clear hall1 hall2 hr hr2
        cases hq : eqGd (l.getD i noG) (m.getD i noG) with
        | true =>
          have HX2 : Hid (∀ j, j < i + 1 → eqGd (l.getD j noG) (m.getD j noG) = true) := by
            intro j hj
            by_cases hji : j = i
            · rw [hji]; exact hq
            · exact HX.out j (by omega)
          rw [hq] at HQ
          clear hq HX ha hb
          generalize l.getD i noG = x at *
          generalize m.getD i noG = y at *
          go_wp2_with fail
          go_quiet (fail)
          go_wp2_with fail
          go_roundw
          case rel => exact ⟨i + 1, by omega, by go_num, HX2, below_drewN hw _⟩
          case measure => simp [intOf]; omega
        | false =>
          have HF : Hid (sameL eqGd noG l m = false) := sameL_ne hlt hq
          rw [hq] at HQ
          clear hq HX ha hb
          generalize l.getD i noG = x at *
          generalize m.getD i noG = y at *
          go_wp2_with fail
          go_quiet (fail)
          go_wp2_with fail
          go_ret
          exact ⟨ret_bool HF.out.symm, below_drewN hw _⟩
      · have hii : ¬ (i : Int) < (l.length : Int) := by omega
        have HF : Hid (sameL eqGd noG l m = true) := sameL_all HL.out (fun j hj => HX.out j (by omega))
        clear HX ha hb
        go_wp2_with fail
        go_ret
        exact ⟨ret_bool HF.out.symm, hw⟩
  · have HF : Hid (sameL eqGd noG l m = false) := sameL_len h
    have hne : ((l.length : Int) != (m.length : Int)) = true := by simp [bne]; omega
    clear h
    go_enter Try.func53, Try.ntmps53
    go_wp2_with fail
    go_ret
    exact ⟨ret_bool HF.out.symm, Below.refl _ _⟩

end Go.Proofs.Ytjopjdhifbbhdaa
