/- A list of one number again and again, by the program. -/
import Derived.Lib.EndianBits
import Derived.Laws.CopyOwn
import Derived.Deep.RegionHeldLaw
import Derived.Test.YtggojffmfjeikaaHdo
import Derived.Test.YtggojffmfjeikaaTnu
namespace Go.Proofs.Ytggojffmfjeikaa
open Go.RowKit
set_option linter.unusedVariables false

set_option maxRecDepth 100000 in
set_option maxHeartbeats 800000 in
theorem iMul64 (n : Nat) (hn : n ≤ 1048576) (w : World) : Calls Try.prog 123 #[.int .u64 1, .int .u64 n] w fun e w' => e = .returned (.tuple #[.int .u64 0, .int .u64 n]) ∧ w = w' := by
  have e1 : bits BinOp.and IntKind.u64 1 4294967295 = 1 := by
    have := bits_mask .u64 64 (by decide) wraps_u64 32 (by decide) 1 (by decide) (by decide)
    simpa using this
  have e2 : bits BinOp.and IntKind.u64 (n : Int) 4294967295 = n := by
    have := bits_mask .u64 64 (by decide) wraps_u64 32 (by decide) (n : Int) (by omega) (by omega)
    have h2 : (n : Int) % 4294967296 = n := by omega
    simpa [h2] using this
  have e0 : bits BinOp.and IntKind.u64 0 4294967295 = 0 := by
    have := bits_mask .u64 64 (by decide) wraps_u64 32 (by decide) 0 (by decide) (by decide)
    simpa using this
  have e3 : (n : Int) / 4294967296 = 0 := by omega
  have e4 : IntKind.u64.wrap (n : Int) = n := by rw [IntKind.wrap_u64]; omega
  have e5 : IntKind.u64.wrap 0 = 0 := by rw [IntKind.wrap_u64]; rfl
  go_enter Try.func123, Try.ntmps123
  go_wp2_with fail
  go_ret2
  exact ⟨rfl, rfl⟩

set_option maxRecDepth 100000 in
set_option maxHeartbeats 800000 in
theorem iMul (n : Nat) (hn : n ≤ 1048576) (w : World) : Calls Try.prog 121 #[.int .u64 1, .int .u64 n] w fun e w' => e = .returned (.tuple #[.int .u64 0, .int .u64 n]) ∧ w = w' := by
  have e5 : IntKind.u64.wrap (n : Int) = n := by rw [IntKind.wrap_u64]; omega
  have e6 : IntKind.u64.wrap 1 = 1 := by rw [IntKind.wrap_u64]; rfl
  go_enter Try.func121, Try.ntmps121
  go_wp2_with fail
  refine (iMul64 n hn _).mono ?_; rintro e w' ⟨rfl, rfl⟩
  go_wp2_with fail
  go_ret2
  exact ⟨rfl, rfl⟩

theorem full_of {B : Nat} {w : World} {g n : Nat} {l : List Int} (h : Own B w g n l) (hn : l.length = n) : w.heap[g]? = some (.cells (l.map (Value.int .i64)).toArray 2 (0, 0)) := by
  subst hn
  obtain ⟨h1, h2⟩ := h
  rcases h2 with ⟨h2, _⟩ | ⟨g', cap', cur, hv, hB, hh, hc, hm, hs, ht⟩
  · cases h2
  · simp only [Value.slice.injEq, Option.some.injEq, Addr.mk.injEq, true_and, and_true] at hv
    obtain ⟨rfl, rfl⟩ := hv
    rw [hh]
    congr 2
    rw [Nat.mul_one] at ht hs
    rw [List.take_of_length_le (by rw [Array.length_toList]; omega)] at ht
    rw [← ht]
theorem of_cells {B : Nat} {w : World} {g n : Nat} {l : List Int} (hn : l.length = n) (hB : B ≤ g) (hm : n ≤ maxLen) (h : w.heap[g]? = some (.cells (l.map (Value.int .i64)).toArray 2 (0, 0))) : Own B w g n l := by
  subst hn
  refine ⟨by simp, .inr ⟨g, l.length, _, rfl, hB, h, Nat.le_refl _, hm, by simp, ?_⟩⟩
  rw [List.take_of_length_le (by simp)]
theorem splice_zeros {n k m : Nat} (h : k + m ≤ n) : splice ((List.replicate n (0 : Int)).map (Value.int .i64)) k ((List.replicate m (0 : Int)).map (Value.int .i64)) = (List.replicate n (0 : Int)).map (Value.int .i64) := by
  unfold splice
  simp only [List.map_replicate, List.take_replicate, List.drop_replicate, List.length_replicate, List.replicate_append_replicate]
  congr 1
  omega

set_option maxRecDepth 100000 in
set_option maxHeartbeats 3200000 in
theorem iRepeat (n : Nat) (a : Option Addr) (c : Nat) (w : World) (hA : At w a [0]) (hn : n ≤ 1048576) :
    Calls Try.prog 117 #[.slice a 1 c, .int .i64 n] w fun e w' => ∃ g, e = .returned (.slice (some ⟨g, 0, none⟩) n n) ∧ Own w.heap.size w' g n (List.replicate n 0) ∧ Below w.heap.size w w' := by
  obtain ⟨ba, oa, rfl, hbl, hca⟩ := (hA.resolve_left (by simp))
  have hc0 := hca 0 (by simp)
  obtain ⟨i0, hi, hz0, hz1, hz2⟩ := info_parts info64
  have e5 : IntKind.u64.wrap (n : Int) = n := by rw [IntKind.wrap_u64]; omega
  have e6 : IntKind.u64.wrap 1 = 1 := by rw [IntKind.wrap_u64]; rfl
  have d1 : decide ((n : Int) < 0) = false := decide_eq_false (by omega)
  have d2 : decide (9223372036854775807 < n) = false := decide_eq_false (by omega)
  go_enter Try.func117, Try.ntmps117
  go_wp2_with fail
  refine (iMul n hn _).mono ?_; rintro e w' ⟨rfl, rfl⟩
  go_wp2_with (refine wpList_make_full _ rfl _ _ 37 rfl w.heap.size 2 i0 (.int .i64 0) 1 Try.underlying37 hi hz0 hz1 .i64 .i64 _ _ n rfl rfl rfl rfl ?c2 ?c3 (Nat.le_refl _) ?_)
  case c2 => rw [hz2]; omega
  case c3 => unfold maxLen; omega
  intro w1 ho1 hg1
  have hb1 := (Below.refl w.heap.size w).grown hg1 (Nat.le_refl _) (by intro k hk; cases hk)
  have ho2 := made_own ho1
  rw [fillz_zero] at ho2
  have hgs := ho2.base
  have c1 : w1.cell? ⟨ba, oa, none⟩ = some (.int .i64 0) := (hb1.cell (p := ⟨ba, oa, none⟩) hbl).trans (by simpa using hc0)
  have hsz : Hid ((Try.prog.info? 2).map (·.size) = some 1) := by show _ = _; rw [hi]; simp [hz1]
  have hone : ∀ m, Hid (∀ u ∈ (List.replicate m (0 : Int)).map (Value.int .i64), u.oneCell' = true) := fun m => ints_oneCell .i64 _
  have HF2 := Lib.hid (full_of ho2 List.length_replicate)
  have HS := Lib.hid (fun (k m : Nat) (h : k + m ≤ n) => splice_zeros (n := n) (k := k) (m := m) h)
  have HC : Hid (∀ (j : Nat) (v : Value), ((List.replicate (Nat.min 1 n) (0 : Int)).map (Value.int .i64))[j]? = some v → w1.cell? ((⟨ba, oa, none⟩ : Addr).add j) = some v) := by
    intro j v hj
    have hjl : j < Nat.min 1 n := by
      apply Nat.lt_of_not_le
      intro hge
      rw [List.getElem?_eq_none (by simpa using hge)] at hj
      cases hj
    obtain rfl : j = 0 := by have := (show Nat.min 1 n ≤ 1 from Nat.min_le_left 1 n); omega
    rw [List.getElem?_eq_getElem (by simpa using hjl)] at hj
    simp at hj
    subst hj
    simpa [Addr.add] using c1
  clear ho1 hg1 hi hz0 hz1 hz2 hc0 hca hA c1 ho2
  go_wp2_with (refine wpList_copy_splice rfl (.tmp 31) (.tmp 32) 37 37 rfl 2 Try.underlying37 hsz.out _ _ n n 1 c rfl rfl w.heap.size 0 _ 2 HF2.out ((List.replicate (Nat.min 1 n) (0 : Int)).map (Value.int .i64)) (by simp) (fun _ => ⟨rfl, _, rfl, HC.out⟩) (by simp; exact Nat.min_le_right _ _) (hone _).out w.heap.size w hb1 (Nat.le_refl _) ?_; intro w2 hw2 hb2)
  have hz2 := Lib.hid hb2.size
  have ho3 : Own w.heap.size w2 w.heap.size n (List.replicate n 0) := of_cells List.length_replicate (Nat.le_refl _) (by unfold maxLen; omega) (by
    have := hw2.out
    rwa [HS.out 0 (Nat.min 1 n) (by have := (show Nat.min 1 n ≤ n from Nat.min_le_right 1 n); omega)] at this)
  clear hw2 HF2 HC hb1 hbl
  have hm0 : Nat.min 1 n ≤ n := Nat.min_le_right 1 n
  go_loopw [8] (fun q wr => ∃ k : Nat, Hid (Nat.min 1 n ≤ k) ∧ k ≤ n ∧ q = .int .i64 k ∧ Own w.heap.size wr w.heap.size n (List.replicate n 0) ∧ Below w.heap.size w wr) (fun q _ => n - (intOf q).toNat)
  case atStart => exact ⟨Nat.min 1 n, Nat.le_refl _, hm0, rfl, ho3, hb2⟩
  case round =>
    obtain ⟨k, hk1, hk, rfl, ho, hb⟩ := hrel
    clear ho3 hb2
    by_cases hlt : k < n
    · have hki : (k : Int) < (n : Int) := by omega
      have hkl : (k : Int) ≤ (n : Int) := by omega
      have hk0 : 0 < k := by
        have h1 := hk1.out
        have : Nat.min 1 n = 1 := Nat.min_eq_left (by omega)
        omega
      have HF3 := Lib.hid (full_of ho List.length_replicate)
      have HC := Lib.hid (show ∀ (j : Nat) (v : Value), ((List.replicate (Nat.min k (n - k)) (0 : Int)).map (Value.int .i64))[j]? = some v → wr.cell? ((⟨w.heap.size, 0, none⟩ : Addr).add j) = some v from by
        intro j v hj
        have hjl : j < Nat.min k (n - k) := by
          apply Nat.lt_of_not_le
          intro hge
          rw [List.getElem?_eq_none (by simpa using hge)] at hj
          cases hj
        have hjn : j < n := by have := (show Nat.min k (n - k) ≤ k from Nat.min_le_left _ _); omega
        rw [List.getElem?_eq_getElem (by simpa using hjl)] at hj
        simp at hj
        subst hj
        have := ho.cellAt j (by simpa using hjn)
        have e : (⟨w.heap.size, 0, none⟩ : Addr).add j = ⟨w.heap.size, j, none⟩ := by cases j <;> simp [Addr.add]
        rw [e, this]
        simp [List.getD_eq_getElem?_getD, hjn])
      have hfit : Hid (k + Nat.min k (n - k) ≤ n) := by have := (show Nat.min k (n - k) ≤ n - k from Nat.min_le_right _ _); show _ ≤ _; omega
      have hpos : Hid (0 < Nat.min k (n - k)) := by
        show _ < _
        exact Nat.lt_min.2 ⟨hk0, by omega⟩
      clear ho
      go_wp2_with fail
      go_region_held_law (fun _ => True) (trivial) ((refine step_copy_splice rfl (.tmp 41) (.tmp 44) 37 37 rfl 2 Try.underlying37 hsz.out _ _ (n - k) (n - k) k n rfl rfl w.heap.size k _ 2 HF3.out ((List.replicate (Nat.min k (n - k)) (0 : Int)).map (Value.int .i64)) (by simp) (fun _ => ⟨if_neg (show ¬ n = k by omega), _, rfl, HC.out⟩) (by simpa using hfit.out) (hone _).out w.heap.size w (by first | exact hb | exact ⟨hb.os, hb.tape, hb.output, hb.size, hb.block⟩) (Nat.le_refl _) ?_; intro w4 hg4 hb4))
      have ho4 : Own w.heap.size w4 w.heap.size n (List.replicate n 0) := of_cells List.length_replicate (Nat.le_refl _) (by unfold maxLen; omega) (by
        have := hg4.out
        rwa [HS.out k (Nat.min k (n - k)) hfit.out] at this)
      rw [List.length_map, List.length_replicate]
      have f1 := hfit.out
      have f2 := hpos.out
      clear hg4 HF3 HC hfit hpos
      generalize Nat.min k (n - k) = m at f1 f2
      have hmi : IntKind.i64.wrap ((k : Int) + (m : Int)) = (k : Int) + (m : Int) := IntWalk.i64_in _ (by omega)
      go_wp2_with fail
      go_roundw
      case rel => exact ⟨k + m, (by show _ ≤ _; have := hk1.out; omega), by omega, by omega⟩
      case measure => simp [intOf]; omega
    · have hkn : k = n := by omega
      have hki : ¬ (k : Int) < (n : Int) := by omega
      clear hm0
      go_wp2_with fail
      go_ret
      exact ⟨_, rfl, ho, hb⟩


set_option maxRecDepth 100000 in
set_option maxHeartbeats 1600000 in
theorem iZeros (n : Nat) (w : World) (hn : n ≤ 1048576) :
    Calls Try.prog 101 #[ofN, .int .i64 n] w fun e w' => ∃ g, e = .returned (.slice (some ⟨g, 0, none⟩) n n) ∧ Own w.heap.size w' g n (List.replicate n 0) ∧ Below w.heap.size w w' := by
  go_enter Try.func101, Try.ntmps101
  go_wp2_with fail
  refine (nConst 0 _).mono ?_; rintro e wz ⟨rfl, bz⟩
  go_wp2_with fail
  refine (iRepeat n _ _ _ (.inr ⟨wz.heap.size, 0, rfl, by simp, fun k hk => ?_⟩) hn).mono ?_
  · obtain rfl : k = 0 := by simpa using hk
    simp [go_sem]
  rintro e w1 ⟨g, rfl, ho, hb⟩
  have zz := bz.size
  have hB := (bz.alloc bz.size (.cells #[.int .i64 0] 2)).trans (hb.mono (by simp; omega))
  go_wp2_with fail
  go_ret
  exact ⟨g, rfl, ho.mono (by simp; omega), hB⟩

end Go.Proofs.Ytggojffmfjeikaa
