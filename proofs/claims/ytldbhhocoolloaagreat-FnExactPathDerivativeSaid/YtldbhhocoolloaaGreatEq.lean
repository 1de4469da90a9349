/- Expressions and programs compared by the laws. -/
import Derived.StillTailTactics
import Derived.Test.YtldbhhocoolloaaGreatTo
namespace Go.Proofs.YtldbhhocoolloaaGreat
open Go.RowKit
set_option linter.unusedVariables false

set_option maxRecDepth 100000 in
set_option maxHeartbeats 1600000 in
theorem eqExpr_of (ks : Fo) (ih : ∀ (a b : Option Addr) (ca cb : Nat) (w : World), Fat w 0 w.heap.size ks a → Fat w 0 w.heap.size ks b → Calls Tryz.prog 114 #[.slice a ks.len ca, .slice b ks.len cb] w fun e w' => e = .returned (.bool true) ∧ Below w.heap.size w w')
    (k n p c : Int) (a b : Option Addr) (ca cb : Nat) (w : World) (hF : Fat w 0 w.heap.size ks a) (hG : Fat w 0 w.heap.size ks b) :
    Calls Tryz.prog 142 #[.agg #[.int .i64 k, .int .i64 n, .int .i64 p, .int .i64 c, .slice a ks.len ca], .agg #[.int .i64 k, .int .i64 n, .int .i64 p, .int .i64 c, .slice b ks.len cb]] w fun e w' => e = .returned (.bool true) ∧ Below w.heap.size w w' := by
  have B1 : ∀ o, Below w.heap.size w (w.alloc o) := fun o => (Below.refl _ _).alloc (Nat.le_refl _) o
  have e0 : (k != k) = false := by simp
  have e1 : (n != n) = false := by simp
  have e2 : (p != p) = false := by simp
  have e3 : (c != c) = false := by simp
  go_enter Tryz.func142, Tryz.ntmps142
  go_wp2_with fail
  refine (ih a b ca cb _ ((hF.below ((B1 _).alloc (by simp) _)).mono (Nat.le_refl _) (by simp; omega)) ((hG.below ((B1 _).alloc (by simp) _)).mono (Nat.le_refl _) (by simp; omega))).mono ?_; rintro e w' ⟨rfl, hb⟩
  have hB := ((B1 _).alloc (by simp) _).trans (hb.mono (by simp; omega))
  go_wp2_with fail
  go_ret
  exact ⟨rfl, hB⟩

set_option maxRecDepth 100000 in
set_option maxHeartbeats 1600000 in
theorem eqExprS_all : ∀ (m : Nat) (f : Fo), f.size < m → ∀ (a b : Option Addr) (ca cb : Nat) (w : World), Fat w 0 w.heap.size f a → Fat w 0 w.heap.size f b → f.len ≤ maxLen →
    Calls Tryz.prog 114 #[.slice a f.len ca, .slice b f.len cb] w fun e w' => e = .returned (.bool true) ∧ Below w.heap.size w w' := by
  intro m
  induction m with
  | zero => intro f hf; omega
  | succ m ih =>
    intro f hf a b ca cb w hF hG hlen
    unfold maxLen at hlen
    have hlen2 : f.len ≤ 9223372036854775807 := by omega
    clear hlen
    go_enter Tryz.func114, Tryz.ntmps114
    go_wp2_with fail
    go_loopw [5] (fun i wr => ∃ k : Nat, k ≤ f.len ∧ i = .int .i64 k ∧ Below w.heap.size w wr) (fun i _ => f.len - (intOf i).toNat)
    case atStart => exact ⟨0, Nat.zero_le _, rfl, Below.refl _ _⟩
    case round =>
      obtain ⟨k, hk, rfl, hw⟩ := hrel
      by_cases hlt : k < f.len
      · obtain ⟨b1, o1, rfl, hbB1⟩ := hF.blk (by omega)
        obtain ⟨b2, o2, rfl, hbB2⟩ := hG.blk (by omega)
        obtain ⟨k1, n1, p1, c1, ks, a', cap', hdr, hr, hkl, c0, d1, d2, d3, d4, hk1⟩ := (hF.below hw).node hlt
        obtain ⟨k2, n2, p2, c2, ks2, a2', cap2', hdr2, hr2, hkl2, f0, f1, f2, f3, f4, hk2⟩ := (hG.below hw).node hlt
        have hlt' := Fo.kid_lt hdr
        rw [hdr] at hdr2
        simp only [Fo.cons.injEq, and_true] at hdr2
        obtain ⟨rfl, rfl, rfl, rfl, rfl⟩ := hdr2
        have HC := Lib.hid (fun W (hW : Below wr.heap.size wr W) => eqExpr_of ks (fun a b ca cb w h1 h2 => ih ks (by omega) a b ca cb w h1 h2 hkl) k1 n1 p1 c1 a' a2' cap' cap2' W ((hk1.mono (Nat.le_refl _) hw.size).below hW |>.mono (Nat.le_refl _) hW.size) ((hk2.mono (Nat.le_refl _) hw.size).below hW |>.mono (Nat.le_refl _) hW.size))
        have hi : (k : Int) < (f.len : Int) := by omega
        clear hk1 hk2 hF hG hdr hr hkl hr2 hkl2 hlt' ih
        go_wp2_with fail
        go_still_tail 8, (by kernel_rfl)
        change wpList _ _ _ _ _ wr.drew
        have hdw : Below wr.heap.size wr wr.drew := ⟨rfl, rfl, rfl, Nat.le_refl _, fun _ _ => rfl⟩
        have HC2 := Lib.hid (HC.out _ hdw)
        clear HC
        generalize wr.drew = w2 at hdw HC2 ⊢
        clear c0 d1 d2 d3 d4 f0 f1 f2 f3 f4
        go_wp2_with fail
        refine (HC2.out).mono ?_; rintro e w' ⟨rfl, hb⟩
        have hw2 := (hw.trans (hdw.mono hw.size)).trans (hb.mono (Nat.le_trans hw.size hdw.size))
        clear HC2
        go_wp2_with fail
        go_roundw
        case rel => exact ⟨k + 1, by omega, by go_num, hw2⟩
        case measure => simp [intOf]; omega
      · have hi : ¬ (k : Int) < (f.len : Int) := by omega
        go_wp2_with fail
        go_ret
        exact ⟨rfl, hw⟩

theorem eqExprS (f : Fo) (a b : Option Addr) (ca cb : Nat) (w : World) (hF : Fat w 0 w.heap.size f a) (hG : Fat w 0 w.heap.size f b) (hl : f.len ≤ maxLen) :
    Calls Tryz.prog 114 #[.slice a f.len ca, .slice b f.len cb] w fun e w' => e = .returned (.bool true) ∧ Below w.heap.size w w' :=
  eqExprS_all (f.size + 1) f (by omega) a b ca cb w hF hG hl
theorem eqExpr (ks : Fo) (k n p c : Int) (a b : Option Addr) (ca cb : Nat) (w : World) (hF : Fat w 0 w.heap.size ks a) (hG : Fat w 0 w.heap.size ks b) (hl : ks.len ≤ maxLen) :
    Calls Tryz.prog 142 #[.agg #[.int .i64 k, .int .i64 n, .int .i64 p, .int .i64 c, .slice a ks.len ca], .agg #[.int .i64 k, .int .i64 n, .int .i64 p, .int .i64 c, .slice b ks.len cb]] w fun e w' => e = .returned (.bool true) ∧ Below w.heap.size w w' :=
  eqExpr_of ks (fun a b ca cb w h1 h2 => eqExprS ks a b ca cb w h1 h2 hl) k n p c a b ca cb w hF hG

set_option maxRecDepth 100000 in
set_option maxHeartbeats 1600000 in
theorem eqFunc (f : Fn) (a b : Option Addr) (ca cb : Nat) (w : World) (hF : Fat w 0 w.heap.size f.outs a) (hG : Fat w 0 w.heap.size f.outs b) (hl : f.outs.len ≤ maxLen) :
    Calls Tryz.prog 90 #[.agg #[.string f.name, .int .i64 f.params, .slice a f.outs.len ca], .agg #[.string f.name, .int .i64 f.params, .slice b f.outs.len cb]] w fun e w' => e = .returned (.bool true) ∧ Below w.heap.size w w' := by
  have B1 : ∀ o, Below w.heap.size w (w.alloc o) := fun o => (Below.refl _ _).alloc (Nat.le_refl _) o
  have e1 : (f.params != f.params) = false := by simp
  go_enter Tryz.func90, Tryz.ntmps90
  go_wp2_with fail
  refine (eqExprS f.outs a b ca cb _ ((hF.below ((B1 _).alloc (by simp) _)).mono (Nat.le_refl _) (by simp; omega)) ((hG.below ((B1 _).alloc (by simp) _)).mono (Nat.le_refl _) (by simp; omega)) hl).mono ?_; rintro e w' ⟨rfl, hb⟩
  have hB := ((B1 _).alloc (by simp) _).trans (hb.mono (by simp; omega))
  go_wp2_with fail
  go_ret
  exact ⟨rfl, hB⟩

set_option maxRecDepth 100000 in
set_option maxHeartbeats 1600000 in
theorem eqFuncS (l : List Fn) (a b : Option Addr) (ca cb : Nat) (w : World) (hP : Pat w 0 w.heap.size l a) (hQ : Pat w 0 w.heap.size l b) (hlen : l.length ≤ maxLen) :
    Calls Tryz.prog 46 #[.slice a l.length ca, .slice b l.length cb] w fun e w' => e = .returned (.bool true) ∧ Below w.heap.size w w' := by
  unfold maxLen at hlen
  have hlen2 : l.length ≤ 9223372036854775807 := by omega
  clear hlen
  go_enter Tryz.func46, Tryz.ntmps46
  go_wp2_with fail
  go_loopw [5] (fun i wr => ∃ k : Nat, k ≤ l.length ∧ i = .int .i64 k ∧ Below w.heap.size w wr) (fun i _ => l.length - (intOf i).toNat)
  case atStart => exact ⟨0, Nat.zero_le _, rfl, Below.refl _ _⟩
  case round =>
    obtain ⟨k, hk, rfl, hw⟩ := hrel
    by_cases hlt : k < l.length
    · obtain ⟨b1, o1, rfl, hbB1, hall1⟩ := ((hP.below hw).resolve_left (by intro e; rw [e] at hlt; simp at hlt))
      obtain ⟨b2, o2, rfl, hbB2, hall2⟩ := ((hQ.below hw).resolve_left (by intro e; rw [e] at hlt; simp at hlt))
      obtain ⟨hr, a', cap', c0, c1, c2, hk1⟩ := hall1 k hlt
      obtain ⟨_, a2', cap2', f0, f1, f2, hk2⟩ := hall2 k hlt
      have HC := Lib.hid (fun W (hW : Below wr.heap.size wr W) => eqFunc (l.getD k noFn) a' a2' cap' cap2' W ((hk1.mono (Nat.le_refl _) hw.size).below hW |>.mono (Nat.le_refl _) hW.size) ((hk2.mono (Nat.le_refl _) hw.size).below hW |>.mono (Nat.le_refl _) hW.size) hr.2.2)
      have hi : (k : Int) < (l.length : Int) := by omega
      clear hk1 hk2 hall1 hall2 hP hQ hr
      generalize l.getD k noFn = f at c0 c1 c2 f0 f1 f2 HC
      go_wp2_with fail
      go_still_tail 8, (by kernel_rfl)
      change wpList _ _ _ _ _ wr.drew
      have hdw : Below wr.heap.size wr wr.drew := ⟨rfl, rfl, rfl, Nat.le_refl _, fun _ _ => rfl⟩
      have HC2 := Lib.hid (HC.out _ hdw)
      clear HC
      generalize wr.drew = w2 at hdw HC2 ⊢
      clear c0 c1 c2 f0 f1 f2
      go_wp2_with fail
      refine (HC2.out).mono ?_; rintro e w' ⟨rfl, hb⟩
      have hw2 := (hw.trans (hdw.mono hw.size)).trans (hb.mono (Nat.le_trans hw.size hdw.size))
      clear HC2
      go_wp2_with fail
      go_roundw
      case rel => exact ⟨k + 1, by omega, by go_num, hw2⟩
      case measure => simp [intOf]; omega
    · have hi : ¬ (k : Int) < (l.length : Int) := by omega
      go_wp2_with fail
      go_ret
      exact ⟨rfl, hw⟩

set_option maxRecDepth 100000 in
set_option maxHeartbeats 1600000 in
theorem eqProgram (l : List Fn) (a b : Option Addr) (ca cb : Nat) (w : World) (hP : Pat w 0 w.heap.size l a) (hQ : Pat w 0 w.heap.size l b) (hl : l.length ≤ maxLen) :
    Calls Tryz.prog 17 #[.agg #[.slice a l.length ca], .agg #[.slice b l.length cb]] w fun e w' => e = .returned (.bool true) ∧ Below w.heap.size w w' := by
  have B1 : ∀ o, Below w.heap.size w (w.alloc o) := fun o => (Below.refl _ _).alloc (Nat.le_refl _) o
  go_enter Tryz.func17, Tryz.ntmps17
  go_wp2_with fail
  refine (eqFuncS l a b ca cb _ ((hP.below ((B1 _).alloc (by simp) _)).mono (Nat.le_refl _) (by simp; omega)) ((hQ.below ((B1 _).alloc (by simp) _)).mono (Nat.le_refl _) (by simp; omega)) hl).mono ?_; rintro e w' ⟨rfl, hb⟩
  have hB := ((B1 _).alloc (by simp) _).trans (hb.mono (by simp; omega))
  go_wp2_with fail
  go_ret
  exact ⟨rfl, hB⟩

end Go.Proofs.YtldbhhocoolloaaGreat
