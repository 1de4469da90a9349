/- Schedules for a chain, by the model: what is asked of the arguments, the first action that is not possible. -/
import Derived.Test.YtolpbflalbfhjaaCkm
import Derived.Test.YtolpbflalbfhjaaChp
namespace Go.Proofs.Ytolpbflalbfhjaa
open Go.RowKit
set_option linter.unusedVariables false

/-- the code of a schedule for a chain and slots -/
def askC (l : List Ac) (n s : Int) : Int := if schB l = true then (if inR n s = true then 0 else 2) else 1
theorem askC_0 {l : List Ac} {n s : Int} (h : askC l n s = 0) : schB l = true ∧ (0 ≤ n ∧ n ≤ 40) ∧ 0 ≤ s ∧ s ≤ 8 := by
  unfold askC at h
  split at h
  · split at h
    · rename_i h1 h2; exact ⟨h1, inB_t (inR_t h2).2, inB_t (inR_t h2).1⟩
    · cases h
  · cases h
set_option maxHeartbeats 800000 in
theorem sAsked (l : List Ac) (a : Option Addr) (cap : Nat) (n s : Int) (w : World) (hP : AcAt w 0 w.heap.size l a) (hs : l.length ≤ 1048576) :
    Calls Try.prog 60 #[.slice a l.length cap, .int .i64 n, .int .i64 s] w fun e w' => e = .returned (.int .i64 (askC l n s)) ∧ Below w.heap.size w w' := by
  have HL := Lib.hid (sSchedule l a cap w hP hs)
  have HS := fun (W : World) => Lib.hid (sIn s 0 8 W)
  have HN := fun (W : World) => Lib.hid (sIn n 0 40 W)
  cases h0 : schB l with
  | false =>
    have HF : Hid (askC l n s = 1) := by show _ = _; simp [askC, h0]
    rw [h0] at HL; clear h0 HN HS
    go_enter Try.func60, Try.ntmps60
    go_wp2_with fail
    refine HL.out.mono ?_; rintro e w1 ⟨rfl, hb⟩
    go_wp2_with fail
    go_ret
    exact ⟨ret_int HF.out.symm, hb⟩
  | true =>
    cases h2 : inB n 0 40 with
    | false =>
      have HF : Hid (askC l n s = 2) := by show _ = _; simp [askC, h0, inR, h2]
      rw [h0] at HL; rw [h2] at HN; clear h0 h2 HS
      go_enter Try.func60, Try.ntmps60
      go_wp2_with fail
      refine HL.out.mono ?_; rintro e w1 ⟨rfl, hb⟩
      go_wp2_with fail
      refine (HN _).out.mono ?_; rintro e w' ⟨rfl, rfl⟩
      go_wp2_with fail
      go_ret
      exact ⟨ret_int HF.out.symm, hb⟩
    | true =>
      have HF : Hid (askC l n s = if inB s 0 8 = true then 0 else 2) := by show _ = _; simp [askC, h0, inR, h2]
      rw [h0] at HL; rw [h2] at HN; clear h0 h2
      cases h1 : inB s 0 8 with
      | false =>
        have HF2 : Hid (askC l n s = 2) := by show _ = _; rw [HF.out, h1]; rfl
        rw [h1] at HS; clear h1 HF
        go_enter Try.func60, Try.ntmps60
        go_wp2_with fail
        refine HL.out.mono ?_; rintro e w1 ⟨rfl, hb⟩
        go_wp2_with fail
        refine (HN _).out.mono ?_; rintro e w' ⟨rfl, rfl⟩
        go_wp2_with fail
        refine (HS _).out.mono ?_; rintro e w' ⟨rfl, rfl⟩
        go_wp2_with fail
        go_ret
        exact ⟨ret_int HF2.out.symm, hb⟩
      | true =>
        have HF2 : Hid (askC l n s = 0) := by show _ = _; rw [HF.out, h1]; rfl
        rw [h1] at HS; clear h1 HF
        go_enter Try.func60, Try.ntmps60
        go_wp2_with fail
        refine HL.out.mono ?_; rintro e w1 ⟨rfl, hb⟩
        go_wp2_with fail
        refine (HN _).out.mono ?_; rintro e w' ⟨rfl, rfl⟩
        go_wp2_with fail
        refine (HS _).out.mono ?_; rintro e w' ⟨rfl, rfl⟩
        go_wp2_with fail
        go_ret
        exact ⟨ret_int HF2.out.symm, hb⟩

def RFirstBad (l : List Ac) (n s : Int) : Int := if askC l n s = 0 then (if allB (cs0 n.toNat s.toNat) l = true then 0 else ((goS (cs0 n.toNat s.toNat) l).1 : Nat)) else 0
def CFirstBad (l : List Ac) (n s : Int) : Int := if askC l n s = 0 then (if allB (cs0 n.toNat s.toNat) l = true then 9 else 0) else askC l n s
set_option maxHeartbeats 800000 in
theorem sFirstBadAction (l : List Ac) (a : Option Addr) (cap : Nat) (n s : Int) (w : World) (hP : AcAt w 0 w.heap.size l a) (hs : l.length ≤ 1048576)
    (h0 : -9223372036854775808 ≤ n ∧ n ≤ 9223372036854775807) (h1 : -9223372036854775808 ≤ s ∧ s ≤ 9223372036854775807) :
    Calls Try.prog 30 #[.slice a l.length cap, .int .i64 n, .int .i64 s] w (II (RFirstBad l n s) (CFirstBad l n s) w) := by
  have HA := Lib.hid (sAsked l a cap n s w hP hs)
  by_cases hc : askC l n s = 0
  · obtain ⟨hsch, b1, b2⟩ := askC_0 hc
    obtain ⟨s, rfl⟩ : ∃ m : Nat, s = m := ⟨s.toNat, by omega⟩
    obtain ⟨n, rfl⟩ : ∃ m : Nat, n = m := ⟨n.toNat, by omega⟩
    have HB := fun (W : World) (hP : AcAt W 0 W.heap.size l a) => Lib.hid (sBad n s (by omega) (by omega) l hsch a cap W hP)
    unfold BadP at HB
    have HF : Hid (RFirstBad l n s = (if allB (cs0 n s) l = true then (0 : Int) else (((goS (cs0 n s) l).1 : Nat) : Int)) ∧ CFirstBad l n s = if allB (cs0 n s) l = true then 9 else 0) := by
      constructor <;> simp [RFirstBad, CFirstBad, hc]
    rw [hc] at HA
    clear hc hsch b1 b2
    cases hz : allB (cs0 n s) l with
    | true =>
      have HF2 : Hid (RFirstBad l n s = 0 ∧ CFirstBad l n s = 9) := by constructor; (rw [HF.out.1, hz]; rfl); (rw [HF.out.2, hz]; rfl)
      rw [hz] at HB
      clear hz HF
      generalize (goS (cs0 n s) l).1 = k at HB
      go_enter Try.func30, Try.ntmps30
      go_wp2_with fail
      refine HA.out.mono ?_; rintro e w1 ⟨rfl, hb⟩
      have HB2 := HB w1 (hP.next hb)
      clear HB
      go_wp2_with fail
      refine HB2.out.mono ?_; rintro e w2 ⟨rfl, hb2⟩
      clear HB2
      go_wp2_with fail
      go_ret2
      exact ⟨ret_ii HF2.out.1.symm HF2.out.2.symm, hb.trans (hb2.mono hb.size)⟩
    | false =>
      have HF2 : Hid (RFirstBad l n s = ((goS (cs0 n s) l).1 : Nat) ∧ CFirstBad l n s = 0) := by constructor; (rw [HF.out.1, hz]; rfl); (rw [HF.out.2, hz]; rfl)
      rw [hz] at HB
      clear hz HF
      generalize (goS (cs0 n s) l).1 = k at *
      go_enter Try.func30, Try.ntmps30
      go_wp2_with fail
      refine HA.out.mono ?_; rintro e w1 ⟨rfl, hb⟩
      have HB2 := HB w1 (hP.next hb)
      clear HB
      go_wp2_with fail
      refine HB2.out.mono ?_; rintro e w2 ⟨rfl, hb2⟩
      clear HB2
      go_wp2_with fail
      go_ret2
      exact ⟨ret_ii HF2.out.1.symm HF2.out.2.symm, hb.trans (hb2.mono hb.size)⟩
  · have HF : Hid (RFirstBad l n s = 0 ∧ CFirstBad l n s = askC l n s) := by constructor <;> simp [RFirstBad, CFirstBad, hc]
    have hne : (askC l n s != 0) = true := by simp [hc]
    clear hc
    generalize askC l n s = c at *
    go_enter Try.func30, Try.ntmps30
    go_wp2_with fail
    refine HA.out.mono ?_; rintro e w1 ⟨rfl, hb⟩
    go_wp2_with fail
    go_ret2
    exact ⟨ret_ii HF.out.1.symm HF.out.2.symm, hb⟩

end Go.Proofs.Ytolpbflalbfhjaa
