/- The first action that is not possible, and how often steps are advanced over, by the program; the latter by the model too. -/
import Derived.Test.YtolpbflalbfhjaaCkf
namespace Go.Proofs.Ytolpbflalbfhjaa
open Go.RowKit
set_option linter.unusedVariables false

theorem ret_s2 {a : Option Addr} {n m c : Nat} {z z' : Int} (h : n = m) (h2 : z = z') : Ending.returned (.tuple #[.slice a n c, .int .i64 z]) = .returned (.tuple #[.slice a m c, .int .i64 z']) := by rw [h, h2]
/-- The call answers a slice of its own, or one that holds nothing, that reads as l, and a code; nothing that was there has turned. -/
def Rs2 (w : World) (l : List Int) (c : Int) (e : Ending) (w' : World) : Prop :=
  ∃ a cap, e = .returned (.tuple #[.slice a l.length cap, .int .i64 c]) ∧ OwnA w.heap.size w' a cap l ∧ Below w.heap.size w w'
set_option maxHeartbeats 1600000 in
theorem iFirstBadAction (l : List Ac) (a : Option Addr) (cap : Nat) (n s : Int) (w : World) (hP : AcAt w 0 w.heap.size l a) (hs : l.length ≤ 1048576)
    (h0 : -9223372036854775808 ≤ n ∧ n ≤ 9223372036854775807) (h1 : -9223372036854775808 ≤ s ∧ s ≤ 9223372036854775807) :
    Calls Try.prog 31 #[.slice a l.length cap, .int .i64 n, .int .i64 s] w (II (RFirstBad l n s) (CFirstBad l n s) w) := by
  by_cases hc : askC l n s = 0
  · obtain ⟨hsch, b1, b2⟩ := askC_0 hc
    obtain ⟨s, rfl⟩ : ∃ m : Nat, s = m := ⟨s.toNat, by omega⟩
    obtain ⟨n, rfl⟩ : ∃ m : Nat, n = m := ⟨n.toNat, by omega⟩
    have HB := Lib.hid (iFollow_0 n s (by omega) (by omega) l hsch a cap w hP)
    have HF : Hid (RFirstBad l n s = (if allB (cs0 n s) l = true then (0 : Int) else (((goS (cs0 n s) l).1 : Nat) : Int)) ∧ CFirstBad l n s = if allB (cs0 n s) l = true then 9 else 0) := by
      constructor <;> simp [RFirstBad, CFirstBad, hc]
    clear hc hsch b1 b2
    unfold FolP at HB
    cases hz : allB (cs0 n s) l with
    | true =>
      have HF2 : Hid (RFirstBad l n s = 0 ∧ CFirstBad l n s = 9) := by constructor; (rw [HF.out.1, hz]; rfl); (rw [HF.out.2, hz]; rfl)
      rw [hz, if_pos rfl] at HB
      clear hz HF
      generalize (goS (cs0 n s) l).1 = k at HB
      go_enter Try.func31, Try.ntmps31
      go_wp2_with fail
      refine HB.out.mono ?_; rintro e w1 ⟨t, adv, g, h, rfl, q1, q2, q3, q4, q5, q6, q7, q8, hb⟩
      clear q1 q2 q3 q4 q5 q6 q7 q8
      clear HB
      go_wp2_with fail
      go_ret2
      exact ⟨ret_ii HF2.out.1.symm HF2.out.2.symm, hb.alloc hb.size _⟩
    | false =>
      have HF2 : Hid (RFirstBad l n s = ((goS (cs0 n s) l).1 : Nat) ∧ CFirstBad l n s = 0) := by constructor; (rw [HF.out.1, hz]; rfl); (rw [HF.out.2, hz]; rfl)
      rw [hz, if_neg (by simp)] at HB
      clear hz HF
      generalize (goS (cs0 n s) l).1 = k at *
      go_enter Try.func31, Try.ntmps31
      go_wp2_with fail
      refine HB.out.mono ?_; rintro e w1 ⟨t, adv, g, h, rfl, q1, q2, q3, q4, q5, q6, q7, q8, hb⟩
      clear q1 q2 q3 q4 q5 q6 q7 q8
      clear HB
      go_wp2_with fail
      go_ret2
      exact ⟨ret_ii HF2.out.1.symm HF2.out.2.symm, hb.alloc hb.size _⟩
  · have HF : Hid (RFirstBad l n s = 0 ∧ CFirstBad l n s = askC l n s) := by constructor <;> simp [RFirstBad, CFirstBad, hc]
    have HB := Lib.hid (iFollow_b l a cap n s w hP hs hc)
    have h12 : askC l n s = 1 ∨ askC l n s = 2 := by unfold askC at *; split <;> (try split) <;> simp_all
    clear hc
    unfold FolB at HB
    rcases h12 with h | h
    all_goals
      rw [h] at HB HF
      clear h
      go_enter Try.func31, Try.ntmps31
      go_wp2_with fail
      refine HB.out.mono ?_; rintro e w1 ⟨rfl, hb⟩
      go_wp2_with fail
      go_ret2
      exact ⟨ret_ii HF.out.1.symm HF.out.2.symm, hb.alloc hb.size _⟩

def RAdvancesOf (l : List Ac) (n s : Int) : List Int := if askC l n s = 0 ∧ allB (cs0 n.toNat s.toNat) l = true then goA (cs0 n.toNat s.toNat) (List.replicate n.toNat 0) l else []
def CAdvancesOf (l : List Ac) (n s : Int) : Int := if askC l n s = 0 then (if allB (cs0 n.toNat s.toNat) l = true then 0 else 4) else askC l n s
theorem goA_len (l : List Ac) : ∀ (s : Cs) (adv : List Int), (goA s adv l).length = adv.length := by
  induction l with
  | nil => intro s adv; rfl
  | cons x r ih =>
    intro s adv
    cases h : posB s x with
    | true => rw [goA_yes h, ih, advA_len]
    | false => rw [goA_no h]
theorem RAdvancesOf_len (l : List Ac) (n s : Int) (hs : l.length ≤ 1048576) : (RAdvancesOf l n s).length ≤ 1048576 := by
  unfold RAdvancesOf
  split
  · rename_i h; rw [goA_len, List.length_replicate]; have := (askC_0 h.1).2.1; omega
  · exact Nat.zero_le _

set_option maxHeartbeats 1600000 in
theorem iAdvancesOf (l : List Ac) (a : Option Addr) (cap : Nat) (n s : Int) (w : World) (hP : AcAt w 0 w.heap.size l a) (hs : l.length ≤ 1048576)
    (h0 : -9223372036854775808 ≤ n ∧ n ≤ 9223372036854775807) (h1 : -9223372036854775808 ≤ s ∧ s ≤ 9223372036854775807) :
    Calls Try.prog 33 #[.slice a l.length cap, .int .i64 n, .int .i64 s] w (Rs2 w (RAdvancesOf l n s) (CAdvancesOf l n s)) := by
  by_cases hc : askC l n s = 0
  · obtain ⟨hsch, b1, b2⟩ := askC_0 hc
    obtain ⟨s, rfl⟩ : ∃ m : Nat, s = m := ⟨s.toNat, by omega⟩
    obtain ⟨n, rfl⟩ : ∃ m : Nat, n = m := ⟨n.toNat, by omega⟩
    have HB := Lib.hid (iFollow_0 n s (by omega) (by omega) l hsch a cap w hP)
    unfold FolP at HB
    cases hz : allB (cs0 n s) l with
    | true =>
      have HF : Hid (RAdvancesOf l n s = goA (cs0 n s) (List.replicate n 0) l ∧ CAdvancesOf l n s = 0) := by
        constructor <;> simp [RAdvancesOf, CAdvancesOf, hc, hz]
      rw [hz, if_pos rfl] at HB
      clear hz hc hsch b1 b2
      generalize (goS (cs0 n s) l).1 = k at HB
      go_enter Try.func33, Try.ntmps33
      go_wp2_with fail
      refine HB.out.mono ?_; rintro e w1 ⟨t, adv, g, h, rfl, q1, ha, q3, q4, q5, q6, q7, oh, hb⟩
      have HA := Lib.hid ha
      have HO := Lib.hid oh
      clear HB ha oh q1 q3 q4 q5 q6 q7
      go_wp2_with fail
      go_ret2
      exact ⟨_, _, ret_s2 (by rw [HF.out.1, HA.out]) HF.out.2.symm, by rw [HF.out.1, ← HA.out]; exact (HO.out.alloc _).a, hb.alloc hb.size _⟩
    | false =>
      have HF : Hid (RAdvancesOf l n s = [] ∧ CAdvancesOf l n s = 4) := by
        constructor <;> simp [RAdvancesOf, CAdvancesOf, hc, hz]
      rw [hz, if_neg (by simp)] at HB
      clear hz hc hsch b1 b2
      generalize (goS (cs0 n s) l).1 = k at HB
      go_enter Try.func33, Try.ntmps33
      go_wp2_with fail
      refine HB.out.mono ?_; rintro e w1 ⟨t, adv, g, h, rfl, q1, q2, q3, q4, q5, q6, q7, q8, hb⟩
      clear q1 q2 q3 q4 q5 q6 q7 q8
      clear HB
      go_wp2_with fail
      go_ret2
      exact ⟨_, _, ret_s2 (by rw [HF.out.1]; rfl) HF.out.2.symm, .inl HF.out.1, hb.alloc hb.size _⟩
  · have HF : Hid (RAdvancesOf l n s = [] ∧ CAdvancesOf l n s = askC l n s) := by constructor <;> simp [RAdvancesOf, CAdvancesOf, hc]
    have HB := Lib.hid (iFollow_b l a cap n s w hP hs hc)
    have hne : (askC l n s != 0) = true := by simp [hc]
    clear hc
    unfold FolB at HB
    generalize askC l n s = c at *
    go_enter Try.func33, Try.ntmps33
    go_wp2_with fail
    refine HB.out.mono ?_; rintro e w1 ⟨rfl, hb⟩
    go_wp2_with fail
    go_ret2
    exact ⟨_, _, ret_s2 (by rw [HF.out.1]; rfl) HF.out.2.symm, .inl HF.out.1, hb.alloc hb.size _⟩

end Go.Proofs.Ytolpbflalbfhjaa
