/- The value of a series, by the model and by the program. -/
import Derived.Test.YtegjlfbklcgapaaValid
import Derived.Test.YtegjlfbklcgapaaLists
namespace Go.Proofs.Ytegjlfbklcgapaa
open Go.RowKit

theorem quiet_same {P : Program} {f : FuncId} {args : Array Value} {w : World} {n : Nat} {v : Value}
    (h : Calls P f args (w.drewN n) fun e w' => e = .returned v ∧ w.drewN n = w') : Calls P f args (w.drewN n) fun e w'' => e = .returned v ∧ ∃ m, w'' = w.drewN m :=
  h.mono fun _ _ ⟨he, hm⟩ => ⟨he, n, hm.symm⟩

theorem hor_drop {l : List Int} {t : Int} {j : Nat} (h : j < l.length) : hor t (l.drop j) = pls (tms (hor t (l.drop (j + 1))) t) (l.getD j 0) := by
  rw [List.drop_eq_getElem_cons h, hor, List.getD_eq_getElem?_getD, List.getElem?_eq_getElem h]; rfl

def valR (l : List Int) (t : Int) : Int := if okS l then hor t l else 0
def valC (l : List Int) : Int := if okS l then 0 else 1
theorem ret_two {a b c d : Int} (h1 : a = c) (h2 : b = d) : Ending.returned (.tuple #[.int .i64 a, .int .i64 b]) = .returned (.tuple #[.int .i64 c, .int .i64 d]) := by rw [h1, h2]

set_option maxHeartbeats 1600000 in
theorem sValue (a : Option Addr) (cap : Nat) (l : List Int) (t : Int) (w : World) (h : At w a l) (hr : Rng l) (ht : -9223372036854775808 ≤ t ∧ t ≤ 9223372036854775807) (hl : l.length ≤ 1048576) :
    Calls Try.prog 97 #[.slice a l.length cap, .int .i64 t] w fun e w' => e = .returned (.int .i64 (hor t l)) ∧ Below w.heap.size w w' := by
  have h0 := Lib.hid (show (0 : Int) = hor t (l.drop l.length) by rw [List.drop_length]; rfl)
  go_enter Try.func97, Try.ntmps97
  go_wp2
  go_loopw [5, 6] (fun n i wr => ∃ (k : Nat) (x : Int), k ≤ l.length ∧ i = .int .i64 ((k : Int) - 1) ∧ n = .int .i64 x ∧ Hid (x = hor t (l.drop k)) ∧ Below w.heap.size w wr) (fun _ i _ => (intOf i + 1).toNat)
  case atStart => exact ⟨l.length, 0, Nat.le_refl _, rfl, rfl, h0, Below.refl _ _⟩
  case round =>
    obtain ⟨k, x, hk, rfl, rfl, hx, hb⟩ := hrel
    cases k with
    | zero =>
      have hx' := Lib.hid (show x = hor t l from hx.out)
      clear hx h0
      go_wp2
      go_ret
      exact ⟨ret_int hx'.out, hb⟩
    | succ j =>
      have hlt : j < l.length := by omega
      have e : (((j + 1 : Nat) : Int) - 1) = (j : Int) := by omega
      rw [e]
      clear e
      obtain ⟨b, off, rfl, hbl, hc⟩ := (h.resolve_left (by intro e; rw [e] at hlt; simp at hlt))
      have hck : wr.cell? ⟨b, off + j, none⟩ = some (.int .i64 (l.getD j 0)) := (hb.cell (p := ⟨b, off + j, none⟩) hbl).trans (hc j hlt)
      have hy := hr.at j
      have hx2 : Hid (pls (tms x t) (l.getD j 0) = hor t (l.drop j)) := by rw [hor_drop hlt, ← hx.out]; rfl
      have bx : 0 ≤ x ∧ x < 1000003 := by rw [hx.out]; exact hor_bd _ _
      have bt := tms_bd x t
      have hi : (j : Int) < (l.length : Int) := by omega
      clear hc hx h h0
      generalize l.getD j 0 = y at hck hy hx2
      go_wp2
      go_quiet ((first | (go_at_call 52; exact quiet_same (sTimes x t (by omega) ht _)) | (go_at_call 51; exact quiet_same (sPlus (tms x t) y (by omega) hy _))))
      go_wp2
      go_roundw
      case rel => exact ⟨j, _, by omega, rfl, rfl, hx2, below_drewN hb _⟩
      case measure => simp [intOf]

set_option maxHeartbeats 1600000 in
theorem sValueAt (a : Option Addr) (cap : Nat) (l : List Int) (t : Int) (w : World) (h : At w a l) (hr : Rng l) (ht : -9223372036854775808 ≤ t ∧ t ≤ 9223372036854775807) (hl : l.length ≤ 1048576) :
    Calls Try.prog 72 #[.slice a l.length cap, .int .i64 t] w fun e w' => e = .returned (.tuple #[.int .i64 (valR l t), .int .i64 (valC l)]) ∧ Below w.heap.size w w' := by
  cases hok : okS l with
  | true =>
    have HO := Lib.hid hok
    clear hok
    go_enter Try.func72, Try.ntmps72
    go_wp2_with fail
    refine (sOk a cap l _ h (by omega)).mono ?_; rintro e w' ⟨rfl, rfl⟩
    rw [HO.out]
    go_wp2_with fail
    refine (sValue a cap l t _ h hr ht hl).mono ?_; rintro e w' ⟨rfl, hb⟩
    go_wp2_with fail
    go_ret2
    exact ⟨ret_two (if_pos HO.out).symm (if_pos HO.out).symm, hb⟩
  | false =>
    have HO := Lib.hid hok
    clear hok
    go_enter Try.func72, Try.ntmps72
    go_wp2_with fail
    refine (sOk a cap l _ h (by omega)).mono ?_; rintro e w' ⟨rfl, rfl⟩
    rw [HO.out]
    go_wp2_with fail
    go_ret2
    exact ⟨ret_two (if_neg (by rw [HO.out]; simp)).symm (if_neg (by rw [HO.out]; simp)).symm, Below.refl _ _⟩

set_option maxHeartbeats 1600000 in
theorem iValueAt (a : Option Addr) (cap : Nat) (l : List Int) (t : Int) (w : World) (h : At w a l) (hr : Rng l) (ht : -9223372036854775808 ≤ t ∧ t ≤ 9223372036854775807) (hl : l.length ≤ 1048576) :
    Calls Try.prog 73 #[.slice a l.length cap, .int .i64 t] w fun e w' => e = .returned (.tuple #[.int .i64 (valR l t), .int .i64 (valC l)]) ∧ Below w.heap.size w w' := by
  cases hok : okS l with
  | true =>
    have HO := Lib.hid hok
    clear hok
    have h0 := Lib.hid (show (0 : Int) = hor t (l.drop l.length) by rw [List.drop_length]; rfl)
    go_enter Try.func73, Try.ntmps73
    go_wp2_with fail
    refine (iValid a cap l _ h (by omega)).mono ?_; rintro e w' ⟨rfl, rfl⟩
    rw [HO.out]
    go_wp2_with fail
    go_loopw [6, 7] (fun n i wr => ∃ (k : Nat) (x : Int), k ≤ l.length ∧ i = .int .i64 ((k : Int) - 1) ∧ n = .int .i64 x ∧ Hid (x = hor t (l.drop k)) ∧ Below w.heap.size w wr) (fun _ i _ => (intOf i + 1).toNat)
    case atStart => exact ⟨l.length, 0, Nat.le_refl _, rfl, rfl, h0, Below.refl _ _⟩
    case round =>
      obtain ⟨k, x, hk, rfl, rfl, hx, hb⟩ := hrel
      cases k with
      | zero =>
        have hx' := Lib.hid (show x = hor t l from hx.out)
        clear hx h0
        go_wp2
        go_ret2
        exact ⟨ret_two (by rw [hx'.out]; exact (if_pos HO.out).symm) (if_pos HO.out).symm, hb⟩
      | succ j =>
        have hlt : j < l.length := by omega
        have e : (((j + 1 : Nat) : Int) - 1) = (j : Int) := by omega
        rw [e]
        clear e
        obtain ⟨b, off, rfl, hbl, hc⟩ := (h.resolve_left (by intro e; rw [e] at hlt; simp at hlt))
        have hck : wr.cell? ⟨b, off + j, none⟩ = some (.int .i64 (l.getD j 0)) := (hb.cell (p := ⟨b, off + j, none⟩) hbl).trans (hc j hlt)
        have hy := hr.at j
        have hx2 : Hid (pls (tms x t) (l.getD j 0) = hor t (l.drop j)) := by rw [hor_drop hlt, ← hx.out]; rfl
        have bx : 0 ≤ x ∧ x < 1000003 := by rw [hx.out]; exact hor_bd _ _
        have bt := tms_bd x t
        have hi : (j : Int) < (l.length : Int) := by omega
        clear hc hx h h0
        generalize l.getD j 0 = y at hck hy hx2
        go_wp2
        go_quiet ((first | (go_at_call 29; exact quiet_same (iTimes x t (by omega) ht _)) | (go_at_call 28; exact quiet_same (iPlus (tms x t) y (by omega) hy _))))
        go_wp2
        go_roundw
        case rel => exact ⟨j, _, by omega, rfl, rfl, hx2, below_drewN hb _⟩
        case measure => simp [intOf]
  | false =>
    have HO := Lib.hid hok
    clear hok
    go_enter Try.func73, Try.ntmps73
    go_wp2_with fail
    refine (iValid a cap l _ h (by omega)).mono ?_; rintro e w' ⟨rfl, rfl⟩
    rw [HO.out]
    go_wp2_with fail
    go_ret2
    exact ⟨ret_two (if_neg (by rw [HO.out]; simp)).symm (if_neg (by rw [HO.out]; simp)).symm, Below.refl _ _⟩

set_option maxHeartbeats 1600000 in
theorem wFnExactValueAt (a0 : Option Addr) (len0 cap0 : Nat) (z0 : List Int) (a1 : Int) (w : World) (w0 : IsRow .i64 w a0 len0 cap0 z0) (w1 : (Lit.int .i64 a1).wf = true) :
    Calls Try.prog 24 #[.slice a0 len0 cap0, .int .i64 a1] w fun e w' => e = .returned (.bool true) ∧ Below w.heap.size w w' := by
  obtain ⟨l, rfl, hat, hr, hmax⟩ := w0.open
  have ht := wf_rng w1
  clear w0 w1
  by_cases hbig : 1048576 < l.length
  · go_enter Try.func24, Try.ntmps24
    go_wp2_with fail
    go_ret
    exact ⟨rfl, Below.refl _ _⟩
  · have hlen : l.length ≤ 1048576 := by omega
    have hlen2 : l.length ≤ 9223372036854775806 := by omega
    clear hbig
    go_enter Try.func24, Try.ntmps24
    go_wp2_with fail
    refine (toInt64S a0 cap0 l _ hat hlen).mono ?_
    rintro e w1 ⟨g1, c1, rfl, o1, b1⟩
    go_wp2_with fail
    refine (sValueAt _ c1 l a1 _ o1.at hr ht hlen).mono ?_
    rintro e w2 ⟨rfl, b2⟩
    go_wp2_with fail
    have hat1 := (hat.below b1 (Nat.le_refl _)).below b2 (Nat.le_refl _)
    have B2 := b1.trans (b2.mono b1.size)
    refine (toInt64S a0 cap0 l _ hat1 hlen).mono ?_
    rintro e w3 ⟨g3, c3, rfl, o3, b3⟩
    go_wp2_with fail
    refine (iValueAt _ c3 l a1 _ o3.at hr ht hlen).mono ?_
    rintro e w4 ⟨rfl, b4⟩
    go_wp2_with fail
    have hat3 := (hat1.below b3 (Nat.le_refl _)).below b4 (Nat.le_refl _)
    have B4 := (B2.trans (b3.mono B2.size)).trans (b4.mono (Nat.le_trans B2.size b3.size))
    have o4 := o3.a.below b4
    refine (toInt64S a0 cap0 l _ hat3 hlen).mono ?_
    rintro e w5 ⟨g5, c5, rfl, o5, b5⟩
    go_wp2_with fail
    refine (eqInt64S _ _ c3 c5 l _ (o4.below b5).at o5.at hlen2).mono ?_
    rintro e w6 ⟨rfl, b6⟩
    go_wp2_with fail
    go_ret
    exact ⟨rfl, (B4.trans (b5.mono B4.size)).trans (b6.mono (Nat.le_trans B4.size b5.size))⟩

end Go.Proofs.Ytegjlfbklcgapaa
