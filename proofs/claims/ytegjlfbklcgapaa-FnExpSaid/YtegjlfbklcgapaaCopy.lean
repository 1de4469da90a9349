/- The laws' own helpers on slices: a copy, a comparison, marks written and held. -/
import Derived.Test.YtegjlfbklcgapaaSlice
import Derived.OwnWalk
namespace Go.Proofs.Ytegjlfbklcgapaa
open Go.RowKit

set_option maxHeartbeats 800000 in
theorem toInt64S (a : Option Addr) (cap : Nat) (l : List Int) (w : World) (h : At w a l) (hl : l.length ≤ 1048576) :
    Calls Try.prog 56 #[.slice a l.length cap] w (Fresh w l) := by
  obtain ⟨i0, hi, hz0, hz1, hz2⟩ := info_parts info64
  go_enter Try.func56, Try.ntmps56
  go_wp2_with (refine wpList_make_full _ rfl _ _ 30 rfl w.heap.size 2 i0 (.int .i64 0) 1 Try.underlying30 hi hz0 hz1 .i64 .i64 _ _ l.length rfl rfl rfl rfl ?c2 ?c3 (Nat.le_refl _) ?_)
  case c2 => rw [hz2]; omega
  case c3 => unfold maxLen; omega
  intro w1 ho1 hg1
  have hb1 := (Below.refl w.heap.size w).grown hg1 (Nat.le_refl _) (by intro k hk; cases hk)
  have ho2 := made_own ho1
  clear ho1 hg1 hi hz0 hz1 hz2
  go_wp2
  go_loopw [4] (fun i wr => ∃ k : Nat, k ≤ l.length ∧ i = .int .i64 k ∧ Own w.heap.size wr w.heap.size l.length (fillz l.length (l.take k)) ∧ Below w.heap.size w wr) (fun i _ => l.length - (intOf i).toNat)
  case atStart => exact ⟨0, Nat.zero_le _, rfl, ho2, hb1⟩
  case round =>
    obtain ⟨k, hk, rfl, ho, hb⟩ := hrel
    by_cases hlt : k < l.length
    · obtain ⟨b, off, rfl, hbl, hc⟩ := (h.resolve_left (by intro e; rw [e] at hlt; simp at hlt))
      have hck : wr.cell? ⟨b, off + k, none⟩ = some (.int .i64 (l.getD k 0)) := (hb.cell (p := ⟨b, off + k, none⟩) hbl).trans (hc k hlt)
      have hlen : (l.take k).length = k := by simp; omega
      have hcs := ho.cellAt k (by rw [fillz_len (by omega)]; exact hlt)
      have hfr := ho.frz k
      have hset := ho.set k (l.getD k 0)
      have hs2 : (fillz l.length (l.take k)).set k (l.getD k 0) = fillz l.length (l.take (k + 1)) := by
        have := fillz_set (n := l.length) (xs := l.take k) (by omega) (l.getD k 0)
        rw [hlen, take_snoc hlt] at this; exact this
      rw [hs2] at hset
      have hb2 := hb.setCell (p := ⟨w.heap.size, k, none⟩) (Nat.le_refl _) (.int .i64 (l.getD k 0))
      clear hc hlen hs2 ho
      generalize l.getD k 0 = x at hck hset hb2
      go_wp2
      go_roundw
      case rel => exact ⟨k + 1, by omega, by go_num, hset, hb2⟩
      case measure => simp [intOf]; omega
    · have hkk : k = l.length := by omega
      subst hkk
      rw [List.take_length, fillz_full rfl] at ho
      go_wp2
      go_ret
      exact ⟨_, _, rfl, ho, hb⟩

set_option maxHeartbeats 800000 in
theorem eqInt64S (a b : Option Addr) (ca cb : Nat) (l : List Int) (w : World) (ha : At w a l) (hb : At w b l) (hl : l.length ≤ 9223372036854775806) :
    Calls Try.prog 58 #[.slice a l.length ca, .slice b l.length cb] w fun e w' => e = .returned (.bool true) ∧ Below w.heap.size w w' := by
  go_enter Try.func58, Try.ntmps58
  go_wp2
  go_loopw [5] (fun i wr => ∃ k : Nat, k ≤ l.length ∧ i = .int .i64 k ∧ Below w.heap.size w wr) (fun i _ => l.length - (intOf i).toNat)
  case atStart => exact ⟨0, Nat.zero_le _, rfl, Below.refl _ _⟩
  case round =>
    obtain ⟨k, hk, rfl, hw⟩ := hrel
    by_cases hlt : k < l.length
    · obtain ⟨b1, o1, rfl, hbl1, hc1⟩ := (ha.resolve_left (by intro e; rw [e] at hlt; simp at hlt))
      obtain ⟨b2, o2, rfl, hbl2, hc2⟩ := (hb.resolve_left (by intro e; rw [e] at hlt; simp at hlt))
      have h1 : wr.cell? ⟨b1, o1 + k, none⟩ = some (.int .i64 (l.getD k 0)) := (hw.cell (p := ⟨b1, o1 + k, none⟩) hbl1).trans (hc1 k hlt)
      have h2 : wr.cell? ⟨b2, o2 + k, none⟩ = some (.int .i64 (l.getD k 0)) := (hw.cell (p := ⟨b2, o2 + k, none⟩) hbl2).trans (hc2 k hlt)
      clear hc1 hc2 ha hb
      generalize l.getD k 0 = x at h1 h2
      have hi : (k : Int) < (l.length : Int) := by omega
      go_wp2
      go_quiet (fail)
      go_wp2
      go_roundw
      case rel => exact ⟨k + 1, by omega, by go_num, below_drewN hw _⟩
      case measure => simp [intOf]; omega
    · go_wp2
      go_ret
      exact ⟨rfl, hw⟩

set_option maxHeartbeats 800000 in
theorem markInt64S (B : Nat) (a : Option Addr) (cap : Nat) (l : List Int) (k0 : Nat) (w : World) (h : OwnA B w a cap l) (hl : l.length ≤ 1048576) (hk0 : k0 ≤ 16777216) :
    Calls Try.prog 62 #[.slice a l.length cap, .int .i64 k0] w fun e w' => e = .returned (.int .i64 ((k0 + l.length : Nat) : Int)) ∧ OwnA B w' a cap (marks l.length k0) ∧ w.grownBy w' (blk a l) := by
  by_cases hn : l = []
  · subst hn
    go_enter Try.func62, Try.ntmps62
    go_wp2
    refine wp_loop_rounds 1 ?_
    rw [rounds_succ]
    go_wp2
    go_ret
    exact ⟨rfl, .inl rfl, World.grownBy.refl _ _⟩
  · obtain ⟨g, rfl, ho⟩ := h.resolve_left hn
    have hblk : blk (some ⟨g, 0, none⟩) l = some g := by simp [blk, hn]
    rw [hblk]
    have ho0 : Own B w g cap (marks 0 k0 ++ l.drop 0) := by simpa [marks] using ho
    go_enter Try.func62, Try.ntmps62
    go_wp2
    go_loopw [1, 5] (fun q i wr => ∃ k : Nat, k ≤ l.length ∧ i = .int .i64 k ∧ q = .int .i64 ((k0 + k : Nat) : Int) ∧ Own B wr g cap (marks k k0 ++ l.drop k) ∧ w.grownBy wr (some g)) (fun _ i _ => l.length - (intOf i).toNat)
    case atStart => exact ⟨0, Nat.zero_le _, rfl, rfl, ho0, World.grownBy.refl _ _⟩
    case round =>
      obtain ⟨k, hk, rfl, rfl, ho, hg⟩ := hrel
      by_cases hlt : k < l.length
      · have hlen : (marks k k0 ++ l.drop k).length = l.length := by simp [marks_len]; omega
        have hcs := ho.cellAt k (by rw [hlen]; exact hlt)
        have hfr := ho.frz k
        have hset := ho.set k ((k0 + k : Nat) : Int)
        have hs2 : (marks k k0 ++ l.drop k).set k ((k0 + k : Nat) : Int) = marks (k + 1) k0 ++ l.drop (k + 1) := by
          rw [List.set_append_right _ _ (by rw [marks_len]; exact Nat.le_refl _), marks_len, Nat.sub_self, List.drop_eq_getElem_cons hlt, List.set_cons_zero, marks_succ, List.append_assoc]; rfl
        rw [hs2] at hset
        have hg2 := grownBy_trans hg (grownBy_set wr g k (.int .i64 ((k0 + k : Nat) : Int)))
        clear hlen hs2 ho hblk
        generalize (marks k k0 ++ l.drop k).getD k 0 = x at hcs
        go_wp2
        go_roundw
        case rel => exact ⟨k + 1, by omega, by go_num, by go_num, hset, hg2⟩
        case measure => simp [intOf]; omega
      · have hkk : k = l.length := by omega
        subst hkk
        rw [List.drop_length, List.append_nil] at ho
        go_wp2
        go_ret
        exact ⟨rfl, .inr ⟨g, rfl, ho⟩, hg⟩

set_option maxHeartbeats 800000 in
theorem heldInt64S (a : Option Addr) (cap n : Nat) (k0 : Nat) (w : World) (h : At w a (marks n k0)) (hl : n ≤ 1048576) (hk0 : k0 ≤ 16777216) :
    Calls Try.prog 63 #[.slice a n cap, .int .i64 k0] w fun e w' => e = .returned (.int .i64 ((k0 + n : Nat) : Int)) ∧ w = w' := by
  go_enter Try.func63, Try.ntmps63
  go_wp2
  go_loop [1, 5] (fun q i => ∃ k : Nat, k ≤ n ∧ i = .int .i64 k ∧ q = .int .i64 ((k0 + k : Nat) : Int)) (fun _ i => n - (intOf i).toNat)
  case atStart => exact ⟨0, Nat.zero_le _, rfl, rfl⟩
  case round =>
    obtain ⟨k, hk, rfl, rfl⟩ := hrel
    by_cases hlt : k < n
    · obtain ⟨b, off, rfl, hbl, hc⟩ := (h.resolve_left (by intro e; have := congrArg List.length e; rw [marks_len] at this; simp at this; omega))
      have hck := hc k (by rw [marks_len]; exact hlt)
      rw [marks_at hlt] at hck
      clear hc h
      go_wp2
      go_round
      case rel => exact ⟨k + 1, by omega, by go_num, by go_num⟩
      case measure => simp [intOf]; omega
    · have hkk : k = n := by omega
      subst hkk
      go_wp2
      go_ret
      exact ⟨rfl, rfl⟩

theorem markAt (B : Nat) (a : Option Addr) (cap : Nat) (l : List Int) (k0 : Nat) (q : Int) (w : World) (hq : (k0 : Int) = q) (h : OwnA B w a cap l) (hl : l.length ≤ 1048576) (hk0 : k0 ≤ 16777216) :
    Calls Try.prog 62 #[.slice a l.length cap, .int .i64 q] w fun e w' => e = .returned (.int .i64 (q + (l.length : Int))) ∧ OwnA B w' a cap (marks l.length k0) ∧ w.grownBy w' (blk a l) := by
  subst hq
  exact (markInt64S B a cap l k0 w h hl hk0).mono fun e w' ⟨h1, h2⟩ => ⟨by rw [h1, Int.natCast_add], h2⟩
theorem heldAt (a : Option Addr) (cap n : Nat) (k0 : Nat) (q : Int) (w : World) (hq : (k0 : Int) = q) (h : At w a (marks n k0)) (hl : n ≤ 1048576) (hk0 : k0 ≤ 16777216) :
    Calls Try.prog 63 #[.slice a n cap, .int .i64 q] w fun e w' => e = .returned (.int .i64 (q + (n : Int))) ∧ w = w' := by
  subst hq
  exact (heldInt64S a cap n k0 w h hl hk0).mono fun e w' ⟨h1, h2⟩ => ⟨by rw [h1, Int.natCast_add], h2⟩

end Go.Proofs.Ytegjlfbklcgapaa
