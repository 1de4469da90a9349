/- slices.Repeat of a list of one number, by the program. -/
import Derived.Lib.EndianBits
import Derived.Laws.CopyOwn
import Derived.Deep.RegionHeldLaw
import Derived.Test.YtolpbflalbfhjaaCkr
namespace Go.Proofs.Ytolpbflalbfhjaa
open Go.RowKit
set_option linter.unusedVariables false

set_option maxRecDepth 100000 in
set_option maxHeartbeats 800000 in
theorem iMul64 (n : Nat) (hn : n ≤ 1048576) (w : World) : Calls Try.prog 89 #[.int .u64 1, .int .u64 n] w fun e w' => e = .returned (.tuple #[.int .u64 0, .int .u64 n]) ∧ w = w' := by
  have e1 : bits BinOp.and IntKind.u64 1 4294967295 = 1 := by
    have := bits_mask .u64 64 (by decide) wraps_u64 32 (by decide) 1 (by decide) (by decide)
    simpa using this
  have e2 : bits BinOp.and IntKind.u64 (n : Int) 4294967295 = n := by
    have := bits_mask .u64 64 (by decide) wraps_u64 32 (by decide) (n : Int) (by omega) (by omega)
    have h2 : (n : Int) % 4294967296 = n := by omega
    simpa [h2] using this
  have e0 : bits BinOp.and IntKind.u64 0 4294967295 = 0 := by
    have := bits_mask .u64 64 (by decide) wraps_u64 32 (by decide) 0 (by decide) (by decide)
    simpa using this
  have e3 : (n : Int) / 4294967296 = 0 := by omega
  have e4 : IntKind.u64.wrap (n : Int) = n := by rw [IntKind.wrap_u64]; omega
  have e5 : IntKind.u64.wrap 0 = 0 := by rw [IntKind.wrap_u64]; rfl
  go_enter Try.func89, Try.ntmps89
  go_wp2_with fail
  go_ret2
  exact ⟨rfl, rfl⟩

set_option maxRecDepth 100000 in
set_option maxHeartbeats 800000 in
theorem iMul (n : Nat) (hn : n ≤ 1048576) (w : World) : Calls Try.prog 87 #[.int .u64 1, .int .u64 n] w fun e w' => e = .returned (.tuple #[.int .u64 0, .int .u64 n]) ∧ w = w' := by
  have e5 : IntKind.u64.wrap (n : Int) = n := by rw [IntKind.wrap_u64]; omega
  have e6 : IntKind.u64.wrap 1 = 1 := by rw [IntKind.wrap_u64]; rfl
  go_enter Try.func87, Try.ntmps87
  go_wp2_with fail
  refine (iMul64 n hn _).mono ?_; rintro e w' ⟨rfl, rfl⟩
  go_wp2_with fail
  go_ret2
  exact ⟨rfl, rfl⟩

theorem full_of {B : Nat} {w : World} {g n : Nat} {l : List Int} (h : Own B w g n l) (hn : l.length = n) : w.heap[g]? = some (.cells (l.map (Value.int .i64)).toArray 2 (0, 0)) := by
  subst hn
  obtain ⟨h1, h2⟩ := h
  rcases h2 with ⟨h2, _⟩ | ⟨g', cap', cur, hv, hB, hh, hc, hm, hs, ht⟩
  · cases h2
  · simp only [Value.slice.injEq, Option.some.injEq, Addr.mk.injEq, true_and, and_true] at hv
    obtain ⟨rfl, rfl⟩ := hv
    rw [hh]
    congr 2
    rw [Nat.mul_one] at ht hs
    rw [List.take_of_length_le (by rw [Array.length_toList]; omega)] at ht
    rw [← ht]
theorem of_cells {B : Nat} {w : World} {g n : Nat} {l : List Int} (hn : l.length = n) (hB : B ≤ g) (hm : n ≤ maxLen) (h : w.heap[g]? = some (.cells (l.map (Value.int .i64)).toArray 2 (0, 0))) : Own B w g n l := by
  subst hn
  refine ⟨by simp, .inr ⟨g, l.length, _, rfl, hB, h, Nat.le_refl _, hm, by simp, ?_⟩⟩
  rw [List.take_of_length_le (by simp)]
/-- so many numbers v, the rest 0 -/
def repz (n k : Nat) (v : Int) : List Int := List.replicate k v ++ List.replicate (n - k) 0
theorem repz_len {n k : Nat} {v : Int} (h : k ≤ n) : (repz n k v).length = n := by simp [repz]; omega
theorem repz_at {n k j : Nat} {v : Int} (h : j < k) : (repz n k v).getD j 0 = v := by
  unfold repz; rw [List.getD_eq_getElem?_getD, List.getElem?_append_left (by simpa using h), List.getElem?_replicate, if_pos h]; rfl
theorem repz_zero {n : Nat} {v : Int} : repz n 0 v = List.replicate n 0 := by simp [repz]
theorem repz_full {n : Nat} {v : Int} : repz n n v = List.replicate n v := by simp [repz]
theorem splice_rep {n k m : Nat} {v : Int} (h : k + m ≤ n) : splice ((repz n k v).map (Value.int .i64)) k ((List.replicate m v).map (Value.int .i64)) = (repz n (k + m) v).map (Value.int .i64) := by
  unfold splice repz
  simp only [List.map_append, List.map_replicate, List.length_replicate]
  have e1 : (List.replicate k (Value.int .i64 v) ++ List.replicate (n - k) (Value.int .i64 0)).take k = List.replicate k (Value.int .i64 v) := by
    rw [List.take_append_of_le_length (by simp)]; simp
  have e2 : (List.replicate k (Value.int .i64 v) ++ List.replicate (n - k) (Value.int .i64 0)).drop (k + m) = List.replicate (n - (k + m)) (Value.int .i64 0) := by
    rw [List.drop_append, List.length_replicate, List.drop_eq_nil_of_le (by simp), List.nil_append, List.drop_replicate]; congr 1; omega
  rw [e1, e2, ← List.append_assoc, List.replicate_append_replicate]

set_option maxRecDepth 100000 in
set_option maxHeartbeats 3200000 in
theorem iRepeatV (v : Int) (n : Nat) (a : Option Addr) (c : Nat) (w : World) (hA : At w a [v]) (hn : n ≤ 1048576) :
    Calls Try.prog 81 #[.slice a 1 c, .int .i64 n] w fun e w' => ∃ g, e = .returned (.slice (some ⟨g, 0, none⟩) n n) ∧ Own w.heap.size w' g n (List.replicate n v) ∧ Below w.heap.size w w' := by
  obtain ⟨ba, oa, rfl, hbl, hca⟩ := (hA.resolve_left (by simp))
  have hc0 := hca 0 (by simp)
  obtain ⟨i0, hi, hz0, hz1, hz2⟩ := info_parts info64
  have e5 : IntKind.u64.wrap (n : Int) = n := by rw [IntKind.wrap_u64]; omega
  have e6 : IntKind.u64.wrap 1 = 1 := by rw [IntKind.wrap_u64]; rfl
  have d1 : decide ((n : Int) < 0) = false := decide_eq_false (by omega)
  have d2 : decide (9223372036854775807 < n) = false := decide_eq_false (by omega)
  go_enter Try.func81, Try.ntmps81
  go_wp2_with fail
  refine (iMul n hn _).mono ?_; rintro e w' ⟨rfl, rfl⟩
  go_wp2_with (refine wpList_make_full _ rfl _ _ 22 rfl w.heap.size 2 i0 (.int .i64 0) 1 Try.underlying22 hi hz0 hz1 .i64 .i64 _ _ n rfl rfl rfl rfl ?c2 ?c3 (Nat.le_refl _) ?_)
  case c2 => rw [hz2]; omega
  case c3 => unfold maxLen; omega
  intro w1 ho1 hg1
  have hb1 := (Below.refl w.heap.size w).grown hg1 (Nat.le_refl _) (by intro k hk; cases hk)
  have ho2 := made_own ho1
  rw [fillz_zero, ← repz_zero (v := v)] at ho2
  have hgs := ho2.base
  have c1 : w1.cell? ⟨ba, oa, none⟩ = some (.int .i64 v) := (hb1.cell (p := ⟨ba, oa, none⟩) hbl).trans (by simpa using hc0)
  have hsz : Hid ((Try.prog.info? 2).map (·.size) = some 1) := by show _ = _; rw [hi]; simp [hz1]
  have hone : ∀ m, Hid (∀ u ∈ (List.replicate m v).map (Value.int .i64), u.oneCell' = true) := fun m => ints_oneCell .i64 _
  have HF2 := Lib.hid (full_of ho2 (repz_len (by omega)))
  have HS := Lib.hid (fun (k m : Nat) (h : k + m ≤ n) => splice_rep (n := n) (k := k) (m := m) (v := v) h)
  have HC : Hid (∀ (j : Nat) (u : Value), ((List.replicate (Nat.min 1 n) v).map (Value.int .i64))[j]? = some u → w1.cell? ((⟨ba, oa, none⟩ : Addr).add j) = some u) := by
    intro j u hj
    have hjl : j < Nat.min 1 n := by
      apply Nat.lt_of_not_le
      intro hge
      rw [List.getElem?_eq_none (by simpa using hge)] at hj
      cases hj
    obtain rfl : j = 0 := by have := (show Nat.min 1 n ≤ 1 from Nat.min_le_left 1 n); omega
    rw [List.getElem?_eq_getElem (by simpa using hjl)] at hj
    simp at hj
    subst hj
    simpa [Addr.add] using c1
  clear ho1 hg1 hi hz0 hz1 hz2 hc0 hca hA c1 ho2
  go_wp2_with (refine wpList_copy_splice rfl (.tmp 31) (.tmp 32) 22 22 rfl 2 Try.underlying22 hsz.out _ _ n n 1 c rfl rfl w.heap.size 0 _ 2 HF2.out ((List.replicate (Nat.min 1 n) v).map (Value.int .i64)) (by simp) (fun _ => ⟨rfl, _, rfl, HC.out⟩) (by simp [repz_len (Nat.zero_le n)]; exact Nat.min_le_right _ _) (hone _).out w.heap.size w hb1 (Nat.le_refl _) ?_; intro w2 hw2 hb2)
  have hz2 := Lib.hid hb2.size
  have ho3 : Own w.heap.size w2 w.heap.size n (repz n (Nat.min 1 n) v) := of_cells (repz_len (Nat.min_le_right 1 n)) (Nat.le_refl _) (by unfold maxLen; omega) (by
    have := hw2.out
    rwa [HS.out 0 (Nat.min 1 n) (by have := (show Nat.min 1 n ≤ n from Nat.min_le_right 1 n); omega), Nat.zero_add] at this)
  clear hw2 HF2 HC hb1 hbl
  have hm0 : Nat.min 1 n ≤ n := Nat.min_le_right 1 n
  go_loopw [8] (fun q wr => ∃ k : Nat, Hid (Nat.min 1 n ≤ k) ∧ k ≤ n ∧ q = .int .i64 k ∧ Own w.heap.size wr w.heap.size n (repz n k v) ∧ Below w.heap.size w wr) (fun q _ => n - (intOf q).toNat)
  case atStart => exact ⟨Nat.min 1 n, Nat.le_refl _, hm0, rfl, ho3, hb2⟩
  case round =>
    obtain ⟨k, hk1, hk, rfl, ho, hb⟩ := hrel
    clear ho3 hb2
    by_cases hlt : k < n
    · have hki : (k : Int) < (n : Int) := by omega
      have hkl : (k : Int) ≤ (n : Int) := by omega
      have hk0 : 0 < k := by
        have h1 := hk1.out
        have : Nat.min 1 n = 1 := Nat.min_eq_left (by omega)
        omega
      have HF3 := Lib.hid (full_of ho (repz_len hk))
      have HC := Lib.hid (show ∀ (j : Nat) (u : Value), ((List.replicate (Nat.min k (n - k)) v).map (Value.int .i64))[j]? = some u → wr.cell? ((⟨w.heap.size, 0, none⟩ : Addr).add j) = some u from by
        intro j u hj
        have hjl : j < Nat.min k (n - k) := by
          apply Nat.lt_of_not_le
          intro hge
          rw [List.getElem?_eq_none (by simpa using hge)] at hj
          cases hj
        have hjk : j < k := by have := (show Nat.min k (n - k) ≤ k from Nat.min_le_left _ _); omega
        rw [List.getElem?_eq_getElem (by simpa using hjl)] at hj
        simp at hj
        subst hj
        have := ho.cellAt j (by rw [repz_len hk]; omega)
        have e : (⟨w.heap.size, 0, none⟩ : Addr).add j = ⟨w.heap.size, j, none⟩ := by cases j <;> simp [Addr.add]
        rw [e, this, repz_at hjk])
      have hfit : Hid (k + Nat.min k (n - k) ≤ n) := by have := (show Nat.min k (n - k) ≤ n - k from Nat.min_le_right _ _); show _ ≤ _; omega
      have hpos : Hid (0 < Nat.min k (n - k)) := by
        show _ < _
        exact Nat.lt_min.2 ⟨hk0, by omega⟩
      clear ho
      go_wp2_with fail
      go_region_held_law (fun _ => True) (trivial) ((refine step_copy_splice rfl (.tmp 41) (.tmp 44) 22 22 rfl 2 Try.underlying22 hsz.out _ _ (n - k) (n - k) k n rfl rfl w.heap.size k _ 2 HF3.out ((List.replicate (Nat.min k (n - k)) v).map (Value.int .i64)) (by simp) (fun _ => ⟨if_neg (show ¬ n = k by omega), _, rfl, HC.out⟩) (by simpa [repz_len hk] using hfit.out) (hone _).out w.heap.size w (by first | exact hb | exact ⟨hb.os, hb.tape, hb.output, hb.size, hb.block⟩) (Nat.le_refl _) ?_; intro w4 hg4 hb4))
      have ho4 : Own w.heap.size w4 w.heap.size n (repz n (k + Nat.min k (n - k)) v) := of_cells (repz_len hfit.out) (Nat.le_refl _) (by unfold maxLen; omega) (by
        have := hg4.out
        rwa [HS.out k (Nat.min k (n - k)) hfit.out] at this)
      rw [List.length_map, List.length_replicate]
      have f1 := hfit.out
      have f2 := hpos.out
      clear hg4 HF3 HC hfit hpos
      generalize Nat.min k (n - k) = m at f1 f2 ho4
      have hmi : IntKind.i64.wrap ((k : Int) + (m : Int)) = (k : Int) + (m : Int) := IntWalk.i64_in _ (by omega)
      go_wp2_with fail
      go_roundw
      case rel => exact ⟨k + m, (by show _ ≤ _; have := hk1.out; omega), by omega, by omega, ho4⟩
      case measure => simp [intOf]; omega
    · have hkn : k = n := by omega
      subst hkn
      have hki : ¬ (k : Int) < (k : Int) := by omega
      rw [repz_full] at ho
      clear hm0
      go_wp2_with fail
      go_ret
      exact ⟨_, rfl, ho, hb⟩

end Go.Proofs.Ytolpbflalbfhjaa
