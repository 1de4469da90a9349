/- Idle actions removed, by the program. -/
import Derived.Test.YtolpbflalbfhjaaCkd
import Derived.Test.YtolpbflalbfhjaaCkn
namespace Go.Proofs.Ytolpbflalbfhjaa
open Go.RowKit
set_option linter.unusedVariables false

theorem firF_bd (l : List Ac) : ∀ f k, firF l f k = -1 ∨ (0 ≤ firF l f k ∧ firF l f k < l.length)
  | 0, _ => .inl rfl
  | f + 1, k => by
    rw [firF]
    split
    · split
      · right; omega
      · exact firF_bd l f (k + 1)
    · exact .inl rfl
def trF : Nat → List Ac → List Ac
  | 0, l => l
  | f + 1, l => if firB l < 0 then l else trF f (l.eraseIdx (firB l).toNat)
/-- a schedule without idle actions -/
def trB (l : List Ac) : List Ac := trF l.length l
theorem trB_end {l : List Ac} (h : firB l < 0) : trB l = l := by
  unfold trB
  cases hl : l.length with
  | zero => rfl
  | succ f => rw [trF, if_pos h]
theorem trB_step {l : List Ac} (h : ¬ firB l < 0) : trB l = trB (l.eraseIdx (firB l).toNat) ∧ (firB l).toNat < l.length ∧ firB l = (firB l).toNat := by
  have hb : 0 ≤ firB l ∧ firB l < l.length := by
    rcases firF_bd l l.length 0 with e | e
    · exact absurd (show firB l < 0 by unfold firB; rw [e]; decide) h
    · exact e
  refine ⟨?_, by omega, by omega⟩
  have hle : (l.eraseIdx (firB l).toNat).length = l.length - 1 := List.length_eraseIdx_of_lt (by omega)
  unfold trB
  rw [hle]
  obtain ⟨f, hf⟩ : ∃ f, l.length = f + 1 := ⟨l.length - 1, by omega⟩
  rw [hf, trF, if_neg h]; rfl
theorem TRow.below {w w' : World} {L : Nat} {v : Value} {l : List Ac} (h : TRow w L v l) (hb : Below w.heap.size w w') : TRow w' L v l := by
  rcases h with h | ⟨g, cap, n0, h1, h2, h3, h4, h5⟩
  · exact .inl h
  · exact .inr ⟨g, cap, n0, h1, h2.next hb, (h3.below hb).mono (Nat.le_refl _) hb.size, h4, h5⟩
def RTrimSchedule (l : List Ac) (n s : Int) : List Ac := if askC l n s = 0 then (if allB (cs0 n.toNat s.toNat) l = true then trB l else []) else []
def CTrimSchedule (l : List Ac) (n s : Int) : Int := if askC l n s = 0 then (if allB (cs0 n.toNat s.toNat) l = true then 0 else 4) else askC l n s
/-- the answer: a list in memory of the call's own, and a code -/
def TPost (r : List Ac) (c : Int) (w : World) (e : Ending) (w' : World) : Prop :=
  ∃ g k, e = .returned (.tuple #[.slice g r.length k, .int .i64 c]) ∧ TRow w' w.heap.size (.slice g r.length k) r ∧ Below w.heap.size w w'
theorem tpost {r : List Ac} {c c' : Int} {v : Value} {w w' : World} {L : Nat} (hv : TRow w' L v r) (hL : w.heap.size ≤ L) (hc : c = c') (hb : Below w.heap.size w w') : TPost r c' w (.returned (.tuple #[v, .int .i64 c])) w' := by
  subst hc
  rcases hv with ⟨rfl, a, k, rfl⟩ | ⟨g, cap, n0, rfl, h2, h3, h4, h5⟩
  · exact ⟨_, _, rfl, .inl ⟨rfl, _, _, rfl⟩, hb⟩
  · exact ⟨_, _, rfl, .inr ⟨g, cap, n0, rfl, h2.mono hL (Nat.le_refl _), h3.mono hL (Nat.le_refl _), h4, h5⟩, hb⟩

theorem iFirst_row {l : List Ac} {v : Value} {w : World} {L : Nat} (h : TRow w L v l) (hl : l.length ≤ 400) : Calls Try.prog 69 #[v] w fun e w' => e = .returned (.int .i64 (firB l)) ∧ Below w.heap.size w w' := by
  rcases h with ⟨rfl, a, c, rfl⟩ | ⟨g, cap, n0, rfl, h2, h3, h4, h5⟩
  · exact iFirstIdle [] a c (Nat.zero_le _) w (.inl rfl) (by simp)
  · exact iFirstIdle l _ cap (by omega) w (h2.mono (Nat.zero_le _) (Nat.le_refl _)) (by omega)
theorem iDelete_row {l : List Ac} {v : Value} {w : World} {L i : Nat} (h : TRow w L v l) (hi : i < l.length) (hL : L ≤ w.heap.size) : Calls Try.prog 70 #[v, .int .i64 i, .int .i64 ((i : Int) + 1)] w fun e w' => ∃ v', e = .returned v' ∧ TRow w' L v' (l.eraseIdx i) ∧ Below L w w' := by
  rcases h with ⟨rfl, a, c, rfl⟩ | ⟨g, cap, n0, rfl, h2, h3, h4, h5⟩
  · simp at hi
  · refine (iDelete1 l i hi L g n0 cap w h2 h3 h4 h5).mono ?_
    rintro e w' ⟨rfl, hA, hW, hK⟩
    have hle : (l.eraseIdx i).length = l.length - 1 := List.length_eraseIdx_of_lt hi
    exact ⟨_, rfl, .inr ⟨g, cap, n0, by rw [hle], hA, hW, by omega, h5⟩, hK.below hL (fun k hk => by have := h3.1.1; omega)⟩
theorem meas {a b c d : Nat} (h1 : a = c) (h2 : b = d) (h : c < d) : a < b := by omega
/-- how long a slice is -/
def lenV : Value → Nat
  | .slice _ n _ => n
  | _ => 0
theorem TRow.lenV {w : World} {L : Nat} {v : Value} {l : List Ac} (h : TRow w L v l) : lenV v = l.length := by
  rcases h with ⟨rfl, a, c, rfl⟩ | ⟨g, cap, n0, rfl, _⟩ <;> rfl

set_option maxRecDepth 100000 in
set_option maxHeartbeats 3200000 in
theorem iTrim_0 (n m : Nat) (hn : n ≤ 40) (hm : m ≤ 8) (l : List Ac) (hl : schB l = true) (hall : allB (cs0 n m) l = true) (a : Option Addr) (cap : Nat) (w : World) (hP : AcAt w 0 w.heap.size l a) :
    Calls Try.prog 41 #[.slice a l.length cap, .int .i64 n, .int .i64 m] w (TPost (trB l) 0 w) := by
  have HB := Lib.hid (iFollow_0 n m hn hm l hl a cap w hP)
  unfold FolP at HB
  rw [hall, if_pos rfl] at HB
  have hll := (schB_t hl).1
  clear hall hl
  generalize (goS (cs0 n m) l).1 = k at HB
  go_enter Try.func41, Try.ntmps41
  go_wp2_with fail
  refine HB.out.mono ?_; rintro e w1 ⟨t, adv, g, h, rfl, x1, x2, x3, x4, x5, x6, x7, x8, hb⟩
  clear HB x1 x2 x3 x4 x5 x6 x7 x8
  obtain ⟨w2, hw2⟩ : ∃ w2, w2 = w1.alloc (.cells #[.int .i64 t.cur, .int .i64 t.left, .slice (some ⟨g, 0, none⟩) t.slots.length t.slots.length, .slice (some ⟨h, 0, none⟩) adv.length adv.length] 67) := ⟨_, rfl⟩
  have BB : Below w1.heap.size w1 w2 := by rw [hw2]; exact (Below.refl _ _).alloc (Nat.le_refl _) _
  have HB2 := hb.trans (BB.mono hb.size)
  have HC := Lib.hid (iClone l a cap w2 (hP.next HB2) hll)
  go_wp2_with fail
  rw [← hw2]
  clear hw2 BB hb
  refine HC.out.mono ?_; rintro e w3 ⟨v, rfl, hT, hb3⟩
  have HB3 := HB2.trans (hb3.mono HB2.size)
  have hL := HB2.size
  have hsz3 := hb3.size
  clear HC hb3 HB2
  have HF := Lib.hid (iFirst_row hT hll)
  have HT := Lib.hid hT
  clear hT
  go_wp2_with fail
  refine HF.out.mono ?_; rintro e w4 ⟨rfl, hb4⟩
  have HB4 := HB3.trans (hb4.mono HB3.size)
  have HT4 := Lib.hid (HT.out.below hb4)
  have hz4 : w2.heap.size ≤ w4.heap.size := by have h1 := hb4.size; have h2 : w2.heap.size ≤ w3.heap.size := hsz3; omega
  clear HF HT hb4 HB3 hsz3
  go_wp2_with fail
  go_loopw [0, 11] (fun v q wr => ∃ l' : List Ac, l'.length ≤ 400 ∧ q = .int .i64 (firB l') ∧ Hid (trB l = trB l') ∧ Hid (TRow wr w2.heap.size v l') ∧ w2.heap.size ≤ wr.heap.size ∧ Below w.heap.size w wr) (fun v _ _ => lenV v)
  case atStart => exact ⟨l, hll, rfl, rfl, HT4.out, hz4, HB4⟩
  case round =>
    obtain ⟨l', hll', rfl, HG, HR, hzr, hw⟩ := hrel
    clear HT4 HB4 hz4
    by_cases hneg : firB l' < 0
    · have HE : Hid (trB l = l') := by show _ = _; rw [HG.out, trB_end hneg]
      clear HG
      go_wp2_with fail
      go_ret2
      exact tpost (by rw [HE.out]; exact HR.out) hL rfl hw
    · obtain ⟨hst, hk, hfk⟩ := trB_step hneg
      have HS : Hid (trB l = trB (l'.eraseIdx (firB l').toNat)) := by show _ = _; rw [HG.out, hst]
      generalize (firB l').toNat = kk at *
      have hk9 : IntKind.i64.wrap ((kk : Int) + 1) = (kk : Int) + 1 := IntWalk.i64_in _ (by omega)
      have HD := Lib.hid (iDelete_row HR.out hk hzr)
      have hle : (l'.eraseIdx kk).length = l'.length - 1 := List.length_eraseIdx_of_lt hk
      have HM := Lib.hid HR.out.lenV
      generalize firB l' = z at *
      subst hfk
      clear HG hst hneg
      go_wp2_with fail
      refine HD.out.mono ?_; rintro e w5 ⟨v5, rfl, hT5, hb5⟩
      have hzz := hb5.size
      have HB5 := hw.trans (hb5.mono hL)
      have HT5 := Lib.hid hT5
      have HF5 := Lib.hid (iFirst_row hT5 (by omega))
      clear HD hT5 hb5
      go_wp2_with fail
      refine HF5.out.mono ?_; rintro e w6 ⟨rfl, hb6⟩
      have HT6 := Lib.hid (HT5.out.below hb6)
      have HB6 := HB5.trans (hb6.mono HB5.size)
      have hz6 := hb6.size
      have HM6 := Lib.hid HT6.out.lenV
      clear HF5 HT5 hb6 HB5
      go_wp2_with fail
      go_roundw
      case rel => exact ⟨_, by omega, rfl, HS.out, HT6.out, by omega, HB6⟩
      case measure => exact meas HM6.out HM.out (by omega)

set_option maxRecDepth 100000 in
set_option maxHeartbeats 3200000 in
theorem iTrimSchedule (l : List Ac) (a : Option Addr) (cap : Nat) (n s : Int) (w : World) (hP : AcAt w 0 w.heap.size l a) (hs : l.length ≤ 1048576)
    (h0 : -9223372036854775808 ≤ n ∧ n ≤ 9223372036854775807) (h1 : -9223372036854775808 ≤ s ∧ s ≤ 9223372036854775807) :
    Calls Try.prog 41 #[.slice a l.length cap, .int .i64 n, .int .i64 s] w (TPost (RTrimSchedule l n s) (CTrimSchedule l n s) w) := by
  by_cases hc : askC l n s = 0
  · obtain ⟨hsch, b1, b2⟩ := askC_0 hc
    obtain ⟨s, rfl⟩ : ∃ m : Nat, s = m := ⟨s.toNat, by omega⟩
    obtain ⟨n, rfl⟩ : ∃ m : Nat, n = m := ⟨n.toNat, by omega⟩
    cases hz : allB (cs0 n s) l with
    | true =>
      have HF : RTrimSchedule l n s = trB l ∧ CTrimSchedule l n s = 0 := by
        constructor <;> simp [RTrimSchedule, CTrimSchedule, hc, hz]
      rw [HF.1, HF.2]
      exact iTrim_0 n s (by omega) (by omega) l hsch hz a cap w hP
    | false =>
      have HF : RTrimSchedule l n s = [] ∧ CTrimSchedule l n s = 4 := by
        constructor <;> simp [RTrimSchedule, CTrimSchedule, hc, hz]
      have HB := Lib.hid (iFollow_0 n s (by omega) (by omega) l hsch a cap w hP)
      unfold FolP at HB
      rw [hz, if_neg (by simp)] at HB
      rw [HF.1, HF.2]
      clear hz hc hsch b1 b2 HF
      generalize (goS (cs0 n s) l).1 = k at HB
      go_enter Try.func41, Try.ntmps41
      go_wp2_with fail
      refine HB.out.mono ?_; rintro e w1 ⟨t, adv, g, h, rfl, q1, q2, q3, q4, q5, q6, q7, q8, hb⟩
      clear q1 q2 q3 q4 q5 q6 q7 q8
      clear HB
      go_wp2_with fail
      go_ret2
      exact ⟨none, 0, rfl, .inl ⟨rfl, _, _, rfl⟩, hb.alloc hb.size _⟩
  · have HF : RTrimSchedule l n s = [] ∧ CTrimSchedule l n s = askC l n s := by constructor <;> simp [RTrimSchedule, CTrimSchedule, hc]
    have HB := Lib.hid (iFollow_b l a cap n s w hP hs hc)
    have hne : (askC l n s != 0) = true := by simp [hc]
    rw [HF.1, HF.2]
    clear hc HF
    unfold FolB at HB
    generalize askC l n s = c at *
    go_enter Try.func41, Try.ntmps41
    go_wp2_with fail
    refine HB.out.mono ?_; rintro e w1 ⟨rfl, hb⟩
    go_wp2_with fail
    go_ret2
    exact ⟨none, 0, rfl, .inl ⟨rfl, _, _, rfl⟩, hb.alloc hb.size _⟩

end Go.Proofs.Ytolpbflalbfhjaa
