/- Sizes of expressions and programs, as the laws count them. -/
import Derived.Test.YtldbhhocoolloaaGreatVal
import Derived.Test.YtldbhhocoolloaaGreatSzv
namespace Go.Proofs.YtldbhhocoolloaaGreat
open Go.RowKit
set_option linter.unusedVariables false

/-- the kids of the expressions -/
def Fo.under (f : Fo) : Nat := f.size - f.len
theorem Fo.under_split (f : Fo) : f.size = f.len + f.under := by have := Fo.len_le f; unfold Fo.under; omega
theorem Fo.under_cons {f : Fo} {i : Nat} {k n p c : Int} {ks : Fo} (h : Fo.drop i f = .cons k n p c ks (Fo.drop (i + 1) f)) : (Fo.drop i f).under = ks.size + (Fo.drop (i + 1) f).under := by
  rw [h]
  have e1 : (Fo.cons k n p c ks (Fo.drop (i + 1) f)).size = ks.size + (Fo.drop (i + 1) f).size + 1 := rfl
  have e2 : (Fo.cons k n p c ks (Fo.drop (i + 1) f)).len = (Fo.drop (i + 1) f).len + 1 := rfl
  have := Fo.len_le (Fo.drop (i + 1) f)
  unfold Fo.under
  omega

set_option maxRecDepth 100000 in
set_option maxHeartbeats 1600000 in
theorem szExpr_of (ks : Fo) (ih : ∀ (a : Option Addr) (cap : Nat) (left : Int) (w : World), Fat w 0 w.heap.size ks a → 0 ≤ left → left ≤ 1048576 → Calls Tryz.prog 108 #[.slice a ks.len cap, .int .i64 left] w fun e w' => e = .returned (.int .i64 (szv ks.size left)) ∧ Below w.heap.size w w')
    (k n p c : Int) (a : Option Addr) (cap : Nat) (left : Int) (w : World) (hF : Fat w 0 w.heap.size ks a) (h0 : 0 ≤ left) (h1 : left ≤ 1048576) :
    Calls Tryz.prog 125 #[.agg #[.int .i64 k, .int .i64 n, .int .i64 p, .int .i64 c, .slice a ks.len cap], .int .i64 left] w fun e w' => e = .returned (.int .i64 (szv ks.size left)) ∧ Below w.heap.size w w' := by
  have B1 : ∀ o, Below w.heap.size w (w.alloc o) := fun o => (Below.refl _ _).alloc (Nat.le_refl _) o
  go_enter Tryz.func125, Tryz.ntmps125
  go_wp2_with fail
  refine (ih a cap left _ ((hF.below (B1 _)).mono (Nat.le_refl _) (by simp)) h0 h1).mono ?_; rintro e w' ⟨rfl, hb⟩
  have hb2 := (B1 _).trans (hb.mono (by simp))
  by_cases hs : (ks.size : Int) ≤ left
  · have HZ := Lib.hid (szv_t hs)
    rw [szv_t hs]
    have hx : 0 ≤ left - (ks.size : Int) := by omega
    have hd : decide (left - (ks.size : Int) < 0) = false := decide_eq_false (by omega)
    generalize left - (ks.size : Int) = x at hx hd HZ
    clear hs hb
    go_wp2_with fail
    go_ret
    exact ⟨ret_int HZ.out.symm, hb2⟩
  · have HZ := Lib.hid (szv_f hs)
    rw [szv_f hs]
    clear hs hb
    go_wp2_with fail
    go_ret
    exact ⟨ret_int HZ.out.symm, hb2⟩

set_option maxRecDepth 100000 in
set_option maxHeartbeats 1600000 in
theorem szExprS_all : ∀ (m : Nat) (f : Fo), f.size < m → ∀ (a : Option Addr) (cap : Nat) (left : Int) (w : World), Fat w 0 w.heap.size f a → f.len ≤ maxLen → 0 ≤ left → left ≤ 1048576 →
    Calls Tryz.prog 108 #[.slice a f.len cap, .int .i64 left] w fun e w' => e = .returned (.int .i64 (szv f.size left)) ∧ Below w.heap.size w w' := by
  intro m
  induction m with
  | zero => intro f hf; omega
  | succ m ih =>
    intro f hf a cap left w hF hlen h0 h1
    unfold maxLen at hlen
    have hlen2 : f.len ≤ 9223372036854775807 := by omega
    clear hlen
    by_cases hl : (f.len : Int) ≤ left
    · have H0 : Hid (szv f.size left = szv (Fo.drop 0 f).under (left - (f.len : Int))) := by
        show _ = _
        rw [Fo.drop_zero, Fo.under_split f]; exact szv_add hl
      have hx0 : 0 ≤ left - (f.len : Int) := by omega
      have hx1 : left - (f.len : Int) ≤ 1048576 := by omega
      have hd : decide (left - (f.len : Int) < 0) = false := decide_eq_false (by omega)
      go_enter Tryz.func108, Tryz.ntmps108
      go_wp2_with fail
      generalize left - (f.len : Int) = x0 at H0 hx0 hx1 hd
      go_loopw [1, 5] (fun q i wr => ∃ (k : Nat) (x : Int), k ≤ f.len ∧ i = .int .i64 k ∧ q = .int .i64 x ∧ 0 ≤ x ∧ x ≤ 1048576 ∧ Hid (szv f.size left = szv (Fo.drop k f).under x) ∧ Below w.heap.size w wr) (fun _ i _ => f.len - (intOf i).toNat)
      case atStart => exact ⟨0, x0, Nat.zero_le _, rfl, rfl, hx0, hx1, H0, Below.refl _ _⟩
      case round =>
        obtain ⟨k, x, hk, rfl, rfl, hx, hx2, HX, hw⟩ := hrel
        clear hd H0 hx0 hx1
        by_cases hlt : k < f.len
        · obtain ⟨b, off, rfl, hbB⟩ := hF.blk (by omega)
          obtain ⟨k1, n1, p1, c1, ks, a', cap', hdr, hr, hkl, c0, d1, d2, d3, d4, hk'⟩ := (hF.below hw).node hlt
          have hlt' := Fo.kid_lt hdr
          have HU := Lib.hid (Fo.under_cons hdr)
          have HC := Lib.hid (szExpr_of ks (fun a cap left w h1 h2 h3 => ih ks (by omega) a cap left w h1 hkl h2 h3) k1 n1 p1 c1 a' cap' x wr (hk'.mono (Nat.le_refl _) hw.size) hx hx2)
          have hi : (k : Int) < (f.len : Int) := by omega
          clear hk' hF hdr hr hkl hlt' ih
          by_cases hs : (ks.size : Int) ≤ x
          · have HZ := Lib.hid (szv_t hs)
            have HX2 : Hid (szv f.size left = szv (Fo.drop (k + 1) f).under (x - (ks.size : Int))) := by
              show _ = _
              rw [HX.out, HU.out]; exact szv_add hs
            have hy : 0 ≤ x - (ks.size : Int) := by omega
            have hy2 : x - (ks.size : Int) ≤ 1048576 := by omega
            have hd : decide (x - (ks.size : Int) < 0) = false := decide_eq_false (by omega)
            go_wp2_with fail
            refine (HC.out).mono ?_; rintro e w' ⟨rfl, hb⟩
            have hw2 := hw.trans (hb.mono hw.size)
            rw [HZ.out]
            generalize x - (ks.size : Int) = y at hy hy2 hd HX2 HZ
            clear hs hb HX c0 d1 d2 d3 d4 HU HC
            go_wp2_with fail
            go_roundw
            case rel => exact ⟨k + 1, y, by omega, by go_num, rfl, hy, hy2, HX2, hw2⟩
            case measure => simp [intOf]; omega
          · have HZ := Lib.hid (szv_f hs)
            have HX2 : Hid (szv f.size left = -1) := by
              show _ = _
              rw [HX.out, HU.out]; exact szv_over hs
            go_wp2_with fail
            refine (HC.out).mono ?_; rintro e w' ⟨rfl, hb⟩
            have hw2 := hw.trans (hb.mono hw.size)
            rw [HZ.out]
            clear hs hb HX c0 d1 d2 d3 d4 HU HC HZ
            go_wp2_with fail
            go_ret
            exact ⟨ret_int HX2.out.symm, hw2⟩
        · have HX2 : Hid (szv f.size left = x) := by
            show _ = _
            rw [HX.out, Fo.drop_end (by omega)]; exact (szv_t (by show (0 : Int) ≤ x; exact hx)).trans (by show x - (0 : Int) = x; omega)
          clear HX
          have hi : ¬ (k : Int) < (f.len : Int) := by omega
          go_wp2_with fail
          go_ret
          exact ⟨ret_int HX2.out.symm, hw⟩
    · have HX2 : Hid (szv f.size left = -1) := by
        show _ = _
        rw [Fo.under_split f]; exact szv_over hl
      have hd : decide (left - (f.len : Int) < 0) = true := decide_eq_true (by omega)
      go_enter Tryz.func108, Tryz.ntmps108
      go_wp2_with fail
      go_ret
      exact ⟨ret_int HX2.out.symm, Below.refl _ _⟩

theorem szExprS (f : Fo) (a : Option Addr) (cap : Nat) (left : Int) (w : World) (hF : Fat w 0 w.heap.size f a) (hl : f.len ≤ maxLen) (h0 : 0 ≤ left) (h1 : left ≤ 1048576) :
    Calls Tryz.prog 108 #[.slice a f.len cap, .int .i64 left] w fun e w' => e = .returned (.int .i64 (szv f.size left)) ∧ Below w.heap.size w w' :=
  szExprS_all (f.size + 1) f (by omega) a cap left w hF hl h0 h1
theorem szExpr (ks : Fo) (k n p c : Int) (a : Option Addr) (cap : Nat) (left : Int) (w : World) (hF : Fat w 0 w.heap.size ks a) (hl : ks.len ≤ maxLen) (h0 : 0 ≤ left) (h1 : left ≤ 1048576) :
    Calls Tryz.prog 125 #[.agg #[.int .i64 k, .int .i64 n, .int .i64 p, .int .i64 c, .slice a ks.len cap], .int .i64 left] w fun e w' => e = .returned (.int .i64 (szv ks.size left)) ∧ Below w.heap.size w w' :=
  szExpr_of ks (fun a cap left w h1 h2 h3 => szExprS ks a cap left w h1 hl h2 h3) k n p c a cap left w hF h0 h1

def Fn.size (f : Fn) : Nat := f.name.size + f.outs.size
def fnsSize : List Fn → Nat
  | [] => 0
  | f :: r => f.size + fnsSize r
theorem fnsSize_drop {l : List Fn} {k : Nat} (h : k < l.length) : fnsSize (l.drop k) = (l.getD k noFn).size + fnsSize (l.drop (k + 1)) := by
  rw [List.drop_eq_getElem_cons h, fnsSize, List.getD_eq_getElem?_getD, List.getElem?_eq_getElem h]; rfl

set_option maxRecDepth 100000 in
set_option maxHeartbeats 1600000 in
theorem szFunc (f : Fn) (a : Option Addr) (cap : Nat) (left : Int) (w : World) (hF : Fat w 0 w.heap.size f.outs a) (hR : RF f) (h0 : 0 ≤ left) (h1 : left ≤ 1048576) :
    Calls Tryz.prog 83 #[.agg #[.string f.name, .int .i64 f.params, .slice a f.outs.len cap], .int .i64 left] w fun e w' => e = .returned (.int .i64 (szv f.size left)) ∧ Below w.heap.size w w' := by
  have B1 : ∀ o, Below w.heap.size w (w.alloc o) := fun o => (Below.refl _ _).alloc (Nat.le_refl _) o
  obtain ⟨r1, r2, r3⟩ := hR
  have hn : f.name.size ≤ 9223372036854775807 := by unfold maxLen at r1; omega
  clear r1 r2
  by_cases hl : (f.name.size : Int) ≤ left
  · have H0 : Hid (szv f.size left = szv f.outs.size (left - (f.name.size : Int))) := by
      show _ = _
      exact szv_add hl
    have hx : 0 ≤ left - (f.name.size : Int) := by omega
    have hx1 : left - (f.name.size : Int) ≤ 1048576 := by omega
    have hd : decide (left - (f.name.size : Int) < 0) = false := decide_eq_false (by omega)
    go_enter Tryz.func83, Tryz.ntmps83
    go_wp2_with fail
    generalize left - (f.name.size : Int) = x at H0 hx hx1 hd ⊢
    refine (szExprS f.outs a cap x _ ((hF.below (B1 _)).mono (Nat.le_refl _) (by simp)) r3 hx hx1).mono ?_; rintro e w' ⟨rfl, hb⟩
    have hb2 := (B1 _).trans (hb.mono (by simp))
    rw [← H0.out]
    by_cases hs : (f.outs.size : Int) ≤ x
    · have HZ := Lib.hid (H0.out.trans (szv_t hs))
      rw [HZ.out]
      have hy : 0 ≤ x - (f.outs.size : Int) := by omega
      have hd : decide (x - (f.outs.size : Int) < 0) = false := decide_eq_false (by omega)
      generalize x - (f.outs.size : Int) = y at hy hd HZ
      clear hs hb H0
      go_wp2_with fail
      go_ret
      exact ⟨ret_int HZ.out.symm, hb2⟩
    · have HZ := Lib.hid (H0.out.trans (szv_f hs))
      rw [HZ.out]
      clear hs hb H0
      go_wp2_with fail
      go_ret
      exact ⟨ret_int HZ.out.symm, hb2⟩
  · have HX2 : Hid (szv f.size left = -1) := szv_over hl
    have hd : decide (left - (f.name.size : Int) < 0) = true := decide_eq_true (by omega)
    go_enter Tryz.func83, Tryz.ntmps83
    go_wp2_with fail
    go_ret
    exact ⟨ret_int HX2.out.symm, B1 _⟩

set_option maxRecDepth 100000 in
set_option maxHeartbeats 1600000 in
theorem szFuncS (l : List Fn) (a : Option Addr) (cap : Nat) (left : Int) (w : World) (hP : Pat w 0 w.heap.size l a) (hlen : l.length ≤ maxLen) (h0 : 0 ≤ left) (h1 : left ≤ 1048576) :
    Calls Tryz.prog 40 #[.slice a l.length cap, .int .i64 left] w fun e w' => e = .returned (.int .i64 (szv (l.length + fnsSize l) left)) ∧ Below w.heap.size w w' := by
  unfold maxLen at hlen
  have hlen2 : l.length ≤ 9223372036854775807 := by omega
  clear hlen
  by_cases hl : (l.length : Int) ≤ left
  · have H0 : Hid (szv (l.length + fnsSize l) left = szv (fnsSize (l.drop 0)) (left - (l.length : Int))) := szv_add hl
    have hx0 : 0 ≤ left - (l.length : Int) := by omega
    have hx1 : left - (l.length : Int) ≤ 1048576 := by omega
    have hd : decide (left - (l.length : Int) < 0) = false := decide_eq_false (by omega)
    go_enter Tryz.func40, Tryz.ntmps40
    go_wp2_with fail
    generalize left - (l.length : Int) = x0 at H0 hx0 hx1 hd
    go_loopw [1, 5] (fun q i wr => ∃ (k : Nat) (x : Int), k ≤ l.length ∧ i = .int .i64 k ∧ q = .int .i64 x ∧ 0 ≤ x ∧ x ≤ 1048576 ∧ Hid (szv (l.length + fnsSize l) left = szv (fnsSize (l.drop k)) x) ∧ Below w.heap.size w wr) (fun _ i _ => l.length - (intOf i).toNat)
    case atStart => exact ⟨0, x0, Nat.zero_le _, rfl, rfl, hx0, hx1, H0, Below.refl _ _⟩
    case round =>
      obtain ⟨k, x, hk, rfl, rfl, hx, hx2, HX, hw⟩ := hrel
      clear hd H0 hx0 hx1
      by_cases hlt : k < l.length
      · obtain ⟨b, off, rfl, hbB, hall⟩ := (hP.resolve_left (by intro e; rw [e] at hlt; simp at hlt))
        obtain ⟨hr, a', cap', d0, d1, d2, hF⟩ := hall k hlt
        have HU := Lib.hid (fnsSize_drop hlt)
        have c0 : wr.cell? ⟨b, off + k * 3, none⟩ = some (.string (l.getD k noFn).name) := (hw.cell (p := ⟨b, off + k * 3, none⟩) hbB.2).trans d0
        have c1 : wr.cell? ⟨b, off + k * 3 + 1, none⟩ = some (.int .i64 (l.getD k noFn).params) := (hw.cell (p := ⟨b, off + k * 3 + 1, none⟩) hbB.2).trans d1
        have c2 : wr.cell? ⟨b, off + k * 3 + 2, none⟩ = some (.slice a' (l.getD k noFn).outs.len cap') := (hw.cell (p := ⟨b, off + k * 3 + 2, none⟩) hbB.2).trans d2
        have hF' := (hF.below hw).mono (Nat.le_refl _) hw.size
        clear d0 d1 d2 hF hall hP
        generalize l.getD k noFn = f at HU c0 c1 c2 hF' hr
        have HC := Lib.hid (szFunc f a' cap' x wr hF' hr hx hx2)
        have hi : (k : Int) < (l.length : Int) := by omega
        clear hF' hr
        by_cases hs : (f.size : Int) ≤ x
        · have HZ := Lib.hid (szv_t hs)
          have HX2 : Hid (szv (l.length + fnsSize l) left = szv (fnsSize (l.drop (k + 1))) (x - (f.size : Int))) := by
            show _ = _
            rw [HX.out, HU.out]; exact szv_add hs
          have hy : 0 ≤ x - (f.size : Int) := by omega
          have hy2 : x - (f.size : Int) ≤ 1048576 := by omega
          have hd : decide (x - (f.size : Int) < 0) = false := decide_eq_false (by omega)
          go_wp2_with fail
          refine (HC.out).mono ?_; rintro e w' ⟨rfl, hb⟩
          have hw2 := hw.trans (hb.mono hw.size)
          rw [HZ.out]
          generalize x - (f.size : Int) = y at hy hy2 hd HX2 HZ
          clear hs hb HX c0 c1 c2 HU HC
          go_wp2_with fail
          go_roundw
          case rel => exact ⟨k + 1, y, by omega, by go_num, rfl, hy, hy2, HX2, hw2⟩
          case measure => simp [intOf]; omega
        · have HZ := Lib.hid (szv_f hs)
          have HX2 : Hid (szv (l.length + fnsSize l) left = -1) := by
            show _ = _
            rw [HX.out, HU.out]; exact szv_over hs
          go_wp2_with fail
          refine (HC.out).mono ?_; rintro e w' ⟨rfl, hb⟩
          have hw2 := hw.trans (hb.mono hw.size)
          rw [HZ.out]
          clear hs hb HX c0 c1 c2 HU HC HZ
          go_wp2_with fail
          go_ret
          exact ⟨ret_int HX2.out.symm, hw2⟩
      · have HX2 : Hid (szv (l.length + fnsSize l) left = x) := by
          show _ = _
          rw [HX.out, List.drop_eq_nil_of_le (by omega)]; exact (szv_t (by show (0 : Int) ≤ x; exact hx)).trans (by show x - (0 : Int) = x; omega)
        clear HX
        have hi : ¬ (k : Int) < (l.length : Int) := by omega
        go_wp2_with fail
        go_ret
        exact ⟨ret_int HX2.out.symm, hw⟩
  · have HX2 : Hid (szv (l.length + fnsSize l) left = -1) := szv_over hl
    have hd : decide (left - (l.length : Int) < 0) = true := decide_eq_true (by omega)
    go_enter Tryz.func40, Tryz.ntmps40
    go_wp2_with fail
    go_ret
    exact ⟨ret_int HX2.out.symm, Below.refl _ _⟩

def pgSize (l : List Fn) : Nat := l.length + fnsSize l
set_option maxRecDepth 100000 in
set_option maxHeartbeats 1600000 in
theorem szProgram (l : List Fn) (a : Option Addr) (cap : Nat) (left : Int) (w : World) (hP : Pat w 0 w.heap.size l a) (hlen : l.length ≤ maxLen) (h0 : 0 ≤ left) (h1 : left ≤ 1048576) :
    Calls Tryz.prog 11 #[.agg #[.slice a l.length cap], .int .i64 left] w fun e w' => e = .returned (.int .i64 (szv (pgSize l) left)) ∧ Below w.heap.size w w' := by
  have B1 : ∀ o, Below w.heap.size w (w.alloc o) := fun o => (Below.refl _ _).alloc (Nat.le_refl _) o
  go_enter Tryz.func11, Tryz.ntmps11
  go_wp2_with fail
  refine (szFuncS l a cap left _ ((hP.below (B1 _)).mono (Nat.le_refl _) (by simp)) hlen h0 h1).mono ?_; rintro e w' ⟨rfl, hb⟩
  have hb2 := (B1 _).trans (hb.mono (by simp))
  by_cases hs : ((pgSize l : Nat) : Int) ≤ left
  · have HZ : Hid (szv (l.length + fnsSize l) left = left - ((pgSize l : Nat) : Int)) := szv_t hs
    have HZ2 : Hid (szv (pgSize l) left = left - ((pgSize l : Nat) : Int)) := szv_t hs
    rw [HZ.out]
    have hy : 0 ≤ left - ((pgSize l : Nat) : Int) := by omega
    have hd : decide (left - ((pgSize l : Nat) : Int) < 0) = false := decide_eq_false (by omega)
    generalize left - ((pgSize l : Nat) : Int) = y at hy hd HZ HZ2
    clear hs hb
    go_wp2_with fail
    go_ret
    exact ⟨ret_int HZ2.out.symm, hb2⟩
  · have HZ : Hid (szv (l.length + fnsSize l) left = -1) := szv_f hs
    have HZ2 : Hid (szv (pgSize l) left = -1) := szv_f hs
    rw [HZ.out]
    clear hs hb
    go_wp2_with fail
    go_ret
    exact ⟨ret_int HZ2.out.symm, hb2⟩

end Go.Proofs.YtldbhhocoolloaaGreat
