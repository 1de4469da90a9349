/- Tapes: the registers for numbers, by the program: what an instruction writes. -/
import Derived.Test.YtggojffmfjeikaaTsr
import Derived.Handy
import Derived.Deep.RegionHeld3
import Derived.BigQuiet
namespace Go.Proofs.Ytggojffmfjeikaa
open Go.RowKit
set_option linter.unusedVariables false

/-- what a function of numbers answers, and nothing turned below -/
def Num1 (w : World) (n : Int) (e : Ending) (w' : World) : Prop := e = .returned (.int .i64 n) ∧ Below w.heap.size w w'
theorem below_box (w : World) (t : TypeId) : Below w.heap.size w (w.alloc (.cells #[] t)) := (Below.refl _ _).alloc (Nat.le_refl _) _

set_option maxRecDepth 100000 in
theorem nPlus (a b : Int) (ha : 0 ≤ a ∧ a < 1000003) (hb : 0 ≤ b ∧ b < 1000003) (w : World) :
    Calls Try.prog 146 #[.agg #[], .int .i64 a, .int .i64 b] w (Num1 w (pls a b)) := by
  go_enter Try.func146, Try.ntmps146
  go_wp2_with fail
  refine (iPlus a b (by omega) (by omega) _).mono ?_; rintro e w' ⟨rfl, rfl⟩
  go_wp2_with fail
  go_ret
  exact ⟨rfl, below_box _ _⟩
set_option maxRecDepth 100000 in
theorem nMinus (a b : Int) (ha : 0 ≤ a ∧ a < 1000003) (hb : 0 ≤ b ∧ b < 1000003) (w : World) :
    Calls Try.prog 143 #[.agg #[], .int .i64 a, .int .i64 b] w (Num1 w (mns a b)) := by
  go_enter Try.func143, Try.ntmps143
  go_wp2_with fail
  refine (imns a b (by omega) (by omega) _).mono ?_; rintro e w' ⟨rfl, rfl⟩
  go_wp2_with fail
  go_ret
  exact ⟨rfl, below_box _ _⟩
set_option maxRecDepth 100000 in
theorem nTimes (a b : Int) (ha : 0 ≤ a ∧ a < 1000003) (hb : 0 ≤ b ∧ b < 1000003) (w : World) :
    Calls Try.prog 147 #[.agg #[], .int .i64 a, .int .i64 b] w (Num1 w (tms a b)) := by
  go_enter Try.func147, Try.ntmps147
  go_wp2_with fail
  refine (iTimes a b (by omega) (by omega) _).mono ?_; rintro e w' ⟨rfl, rfl⟩
  go_wp2_with fail
  go_ret
  exact ⟨rfl, below_box _ _⟩
set_option maxRecDepth 100000 in
theorem nOver (a b : Int) (ha : 0 ≤ a ∧ a < 1000003) (hb : 0 ≤ b ∧ b < 1000003) (w : World) :
    Calls Try.prog 145 #[.agg #[], .int .i64 a, .int .i64 b] w (Num1 w (tms a (inv b))) := by
  have hi := pwr_bd b 1000001
  go_enter Try.func145, Try.ntmps145
  go_wp2_with fail
  refine (iinv b (by omega) _).mono ?_; rintro e w' ⟨rfl, rfl⟩
  go_wp2_with fail
  refine (iTimes a (inv b) (by omega) (by unfold inv; omega) _).mono ?_; rintro e w' ⟨rfl, rfl⟩
  go_wp2_with fail
  go_ret
  exact ⟨rfl, below_box _ _⟩
set_option maxRecDepth 100000 in
theorem nNeg (a : Int) (ha : 0 ≤ a ∧ a < 1000003) (w : World) :
    Calls Try.prog 144 #[.agg #[], .int .i64 a] w (Num1 w (mns 0 a)) := by
  go_enter Try.func144, Try.ntmps144
  go_wp2_with fail
  refine (imns 0 a (by omega) (by omega) _).mono ?_; rintro e w' ⟨rfl, rfl⟩
  go_wp2_with fail
  go_ret
  exact ⟨rfl, below_box _ _⟩
set_option maxRecDepth 100000 in
theorem nConst (a : Int) (w : World) :
    Calls Try.prog 141 #[.agg #[], .int .i64 a] w (Num1 w a) := by
  go_enter Try.func141, Try.ntmps141
  go_wp2_with fail
  go_ret
  exact ⟨rfl, below_box _ _⟩
set_option maxRecDepth 100000 in
theorem nZero (a : Int) (w : World) :
    Calls Try.prog 142 #[.agg #[], .int .i64 a] w fun e w' => e = .returned (.bool (a == 0)) ∧ Below w.heap.size w w' := by
  go_enter Try.func142, Try.ntmps142
  go_wp2_with fail
  go_ret
  exact ⟨rfl, below_box _ _⟩

/-- the arithmetic of numbers, as a value -/
abbrev ofN : Value := .iface 103 (.agg #[])
set_option maxRecDepth 100000 in
theorem negAhead (W : World) : (nilAhead 290 103 (.agg #[]) "loop.example/g01091/impl.negative").run Try.prog W = .ok (some false) W := by kernel_rfl
set_option maxRecDepth 100000 in
theorem negMeth (W : World) : (method 290 103 (.agg #[]) "loop.example/g01091/impl.negative").run Try.prog W = .ok (144, .agg #[]) W := by kernel_rfl
/-- what an instruction writes, and its code -/
def outV (x : In4) (l rs : List Int) : Int := (valV x l rs).getD 0
def outC (x : In4) (l rs : List Int) : Int := if valV x l rs = none then 6 else 0
theorem out_some {x : In4} {l rs : List Int} {v : Int} (h : valV x l rs = some v) : outV x l rs = v ∧ outC x l rs = 0 := by
  unfold outV outC; rw [h]; exact ⟨rfl, if_neg (by simp)⟩
theorem out_none {x : In4} {l rs : List Int} (h : valV x l rs = none) : outV x l rs = 0 ∧ outC x l rs = 6 := by
  unfold outV outC; rw [h]; exact ⟨rfl, if_pos rfl⟩
def Two (w : World) (n c : Int) (e : Ending) (w' : World) : Prop := e = .returned (.tuple #[.int .i64 n, .int .i64 c]) ∧ Below w.heap.size w w'
theorem two_eq {a b c d : Int} (h : a = b) (h2 : c = d) : Ending.returned (.tuple #[.int .i64 a, .int .i64 c]) = .returned (.tuple #[.int .i64 b, .int .i64 d]) := by rw [h, h2]

set_option maxRecDepth 100000 in
set_option maxHeartbeats 3200000 in
theorem iOutcome (x : In4) (i : Nat) (inputs : Int) (a : Option Addr) (ca : Nat) (l : List Int) (b : Option Addr) (cb : Nat) (rs : List Int) (w : World) (hx : insB x i inputs = true) (hrl : rs.length = i) (hi : i ≤ 3200) (hin : inputs ≤ l.length) (hl : l.length ≤ 1048576) (hnl : Nums l) (hnr : Nums rs) (hA : At w a l) (hB : At w b rs) :
    Calls Try.prog 118 #[ofN, .agg #[.int .i64 x.op, .int .i64 x.a, .int .i64 x.b, .int .i64 x.num], .slice a l.length ca, .slice b rs.length cb] w (Two w (outV x l rs) (outC x l rs)) := by
  subst hrl
  have HW : Below w.heap.size w (w.alloc (.cells #[.int .i64 x.op, .int .i64 x.a, .int .i64 x.b, .int .i64 x.num] 85)) := (Below.refl _ _).alloc (Nat.le_refl _) _
  rcases ins_reads hx with ⟨e, hn⟩ | ⟨e, hn⟩ | ⟨e, ha, hb⟩ | ⟨e, ha⟩
  · obtain ⟨n, hq⟩ : ∃ n : Nat, x.num = (n : Int) := ⟨x.num.toNat, by omega⟩
    have hnl2 : n < l.length := by omega
    have hni : (n : Int) < (l.length : Int) := by omega
    have HR := Lib.hid (out_some (x := x) (l := l) (rs := rs) (v := l.getD n 0) (by rw [valV, if_pos e, hq, Int.toNat_natCast]))
    obtain ⟨bf, of, rfl, hbB, hall⟩ := ((hA.below HW (Nat.le_refl _)).resolve_left (by intro e; rw [e] at hnl2; simp at hnl2))
    have f0 := hall n hnl2
    clear hall hA hB hx hnl hnr
    generalize outV x l rs = r at *
    generalize outC x l rs = rc at *
    generalize l.getD n 0 = y at *
    obtain ⟨o, xa, xb, xn⟩ := x
    simp only at *
    subst e; subst hq
    go_enter Try.func118, Try.ntmps118
    go_wp2_with fail
    go_ret2
    exact ⟨two_eq HR.out.1.symm HR.out.2.symm, HW⟩
  · have HR := Lib.hid (out_some (x := x) (l := l) (rs := rs) (v := x.num) (by rw [valV, if_neg (by omega), if_pos e]))
    clear hA hB hx hnl hnr
    generalize outV x l rs = r at *
    generalize outC x l rs = rc at *
    obtain ⟨o, xa, xb, xn⟩ := x
    simp only at *
    subst e
    go_enter Try.func118, Try.ntmps118
    go_wp2_with fail
    refine (nConst xn _).mono ?_; rintro e w1 ⟨rfl, b1⟩
    go_wp2_with fail
    go_ret2
    exact ⟨two_eq HR.out.1.symm HR.out.2.symm, HW.trans (b1.mono HW.size)⟩
  · obtain ⟨n, hq⟩ : ∃ n : Nat, x.a = (n : Int) := ⟨x.a.toNat, by omega⟩
    obtain ⟨m, hqm⟩ : ∃ n : Nat, x.b = (n : Int) := ⟨x.b.toNat, by omega⟩
    have hnl2 : n < rs.length := by omega
    have hml2 : m < rs.length := by omega
    have hni : (n : Int) < (rs.length : Int) := by omega
    have hmi : (m : Int) < (rs.length : Int) := by omega
    obtain ⟨bf, of, rfl, hbB, hall⟩ := ((hB.below HW (Nat.le_refl _)).resolve_left (by intro e; rw [e] at hnl2; simp at hnl2))
    have f0 := hall n hnl2
    have f1 := hall m hml2
    have r0 := hnr.at n
    have r1 := hnr.at m
    have hga : rs.getD x.a.toNat 0 = rs.getD n 0 := by rw [hq, Int.toNat_natCast]
    have hgb : rs.getD x.b.toNat 0 = rs.getD m 0 := by rw [hqm, Int.toNat_natCast]
    clear hall hA hB hnl hnr ha hb
    rcases e with e | e | e | e
    · have HR := Lib.hid (out_some (x := x) (l := l) (rs := rs) (v := pls (rs.getD n 0) (rs.getD m 0)) (by rw [valV, if_neg (by omega), if_neg (by omega), if_pos e, hga, hgb]))
      clear hx hga hgb
      generalize outV x l rs = r at *
      generalize outC x l rs = rc at *
      generalize rs.getD n 0 = y at *
      generalize rs.getD m 0 = z at *
      obtain ⟨o, xa, xb, xn⟩ := x
      simp only at *
      subst e; subst hq; subst hqm
      go_enter Try.func118, Try.ntmps118
      go_wp2_with fail
      go_quiet (fail)
      go_wp2_with fail
      refine (nPlus y z r0 r1 _).mono ?_; rintro e w1 ⟨rfl, b1⟩
      go_wp2_with fail
      go_ret2
      exact ⟨two_eq HR.out.1.symm HR.out.2.symm, (below_drewN HW _).trans (b1.mono HW.size)⟩
    · have HR := Lib.hid (out_some (x := x) (l := l) (rs := rs) (v := mns (rs.getD n 0) (rs.getD m 0)) (by rw [valV, if_neg (by omega), if_neg (by omega), if_neg (by omega), if_pos e, hga, hgb]))
      clear hx hga hgb
      generalize outV x l rs = r at *
      generalize outC x l rs = rc at *
      generalize rs.getD n 0 = y at *
      generalize rs.getD m 0 = z at *
      obtain ⟨o, xa, xb, xn⟩ := x
      simp only at *
      subst e; subst hq; subst hqm
      go_enter Try.func118, Try.ntmps118
      go_wp2_with fail
      go_quiet (fail)
      go_wp2_with fail
      refine (nMinus y z r0 r1 _).mono ?_; rintro e w1 ⟨rfl, b1⟩
      go_wp2_with fail
      go_ret2
      exact ⟨two_eq HR.out.1.symm HR.out.2.symm, (below_drewN HW _).trans (b1.mono HW.size)⟩
    · have HR := Lib.hid (out_some (x := x) (l := l) (rs := rs) (v := tms (rs.getD n 0) (rs.getD m 0)) (by rw [valV, if_neg (by omega), if_neg (by omega), if_neg (by omega), if_neg (by omega), if_pos e, hga, hgb]))
      clear hx hga hgb
      generalize outV x l rs = r at *
      generalize outC x l rs = rc at *
      generalize rs.getD n 0 = y at *
      generalize rs.getD m 0 = z at *
      obtain ⟨o, xa, xb, xn⟩ := x
      simp only at *
      subst e; subst hq; subst hqm
      go_enter Try.func118, Try.ntmps118
      go_wp2_with fail
      go_quiet (fail)
      go_wp2_with fail
      refine (nTimes y z r0 r1 _).mono ?_; rintro e w1 ⟨rfl, b1⟩
      go_wp2_with fail
      go_ret2
      exact ⟨two_eq HR.out.1.symm HR.out.2.symm, (below_drewN HW _).trans (b1.mono HW.size)⟩
    · by_cases hz : rs.getD m 0 = 0
      · have HR := Lib.hid (out_none (x := x) (l := l) (rs := rs) (by rw [valV6 e, hgb, if_pos hz]))
        rw [hz] at f1
        clear hx hga hgb hz r1
        generalize outV x l rs = r at *
        generalize outC x l rs = rc at *
        generalize rs.getD n 0 = y at *
        obtain ⟨o, xa, xb, xn⟩ := x
        simp only at *
        subst e; subst hq; subst hqm
        go_enter Try.func118, Try.ntmps118
        go_wp2_with fail
        go_quiet (fail)
        go_wp2_with fail
        refine (nZero 0 _).mono ?_; rintro e w1 ⟨rfl, b1⟩
        go_wp2_with fail
        go_ret2
        exact ⟨two_eq HR.out.1.symm HR.out.2.symm, (below_drewN HW _).trans (b1.mono HW.size)⟩
      · have HR := Lib.hid (out_some (x := x) (l := l) (rs := rs) (v := tms (rs.getD n 0) (inv (rs.getD m 0))) (by rw [valV6 e, hgb, if_neg hz, hga]))
        have hz2 : (rs.getD m 0 == 0) = false := beq_eq_false_iff_ne.2 hz
        clear hx hga hgb hz
        generalize outV x l rs = r at *
        generalize outC x l rs = rc at *
        generalize rs.getD n 0 = y at *
        generalize rs.getD m 0 = z at *
        obtain ⟨o, xa, xb, xn⟩ := x
        simp only at *
        subst e; subst hq; subst hqm
        have HZ := fun W => Lib.hid (nZero z W)
        rw [hz2] at HZ
        go_enter Try.func118, Try.ntmps118
        go_wp2_with fail
        go_quiet (fail)
        go_wp2_with fail
        refine (HZ _).out.mono ?_; rintro e w1 ⟨rfl, b1⟩
        have b2 := (below_drewN HW _).trans (b1.mono HW.size)
        go_wp2_with fail
        refine (nOver y z r0 r1 _).mono ?_; rintro e w2 ⟨rfl, b3⟩
        go_wp2_with fail
        go_ret2
        exact ⟨two_eq HR.out.1.symm HR.out.2.symm, b2.trans (b3.mono b2.size)⟩
  · obtain ⟨n, hq⟩ : ∃ n : Nat, x.a = (n : Int) := ⟨x.a.toNat, by omega⟩
    have hnl2 : n < rs.length := by omega
    have hni : (n : Int) < (rs.length : Int) := by omega
    obtain ⟨bf, of, rfl, hbB, hall⟩ := ((hB.below HW (Nat.le_refl _)).resolve_left (by intro e; rw [e] at hnl2; simp at hnl2))
    have f0 := hall n hnl2
    have r0 := hnr.at n
    have hga : rs.getD x.a.toNat 0 = rs.getD n 0 := by rw [hq, Int.toNat_natCast]
    have HR := Lib.hid (out_some (x := x) (l := l) (rs := rs) (v := mns 0 (rs.getD n 0)) (by rw [valV, if_neg (by omega), if_neg (by omega), if_neg (by omega), if_neg (by omega), if_neg (by omega), if_pos e, hga]))
    clear hall hA hB hnl hnr ha hx hga
    generalize outV x l rs = r at *
    generalize outC x l rs = rc at *
    generalize rs.getD n 0 = y at *
    obtain ⟨o, xa, xb, xn⟩ := x
    simp only at *
    subst e; subst hq
    have HN := fun W => Lib.hid (nNeg y r0 W)
    have nn := negAhead
    have nm := negMeth
    have q1 : (w.alloc (.cells #[.int .i64 7, .int .i64 (n : Int), .int .i64 xb, .int .i64 xn] 85)).cell? ⟨w.heap.size, 1, none⟩ = some (.int .i64 (n : Int)) := by simp [go_sem]
    obtain ⟨w0, hw0⟩ : ∃ w0, w0 = w.alloc (.cells #[.int .i64 7, .int .i64 (n : Int), .int .i64 xb, .int .i64 xn] 85) := ⟨_, rfl⟩
    rw [← hw0] at q1 f0 hbB HW
    have z0 : w.heap.size < w0.heap.size := by rw [hw0]; simp
    go_enter Try.func118, Try.ntmps118
    go_wp2_with fail
    rw [← hw0]
    clear hw0
    go_region_held3 (fun w' => w'.cell? ⟨w.heap.size, 1, none⟩ = some (.int .i64 (n : Int)) ∧ w'.cell? ⟨bf, of + n, none⟩ = some (.int .i64 y))
      (first
        | exact ⟨q1, f0⟩
        | exact ⟨(hb9.cell (p := ⟨w.heap.size, 1, none⟩) z0).trans q1, (hb9.cell (p := ⟨bf, of + n, none⟩) hbB).trans f0⟩
        | go_keep)
      ((go_at_call 144; refine (HN _).out.mono ?_; rintro e w9 ⟨rfl, hb9'⟩; have hb9 : Below w0.heap.size w0 w9 := ⟨hb9'.os, hb9'.tape, hb9'.output, hb9'.size, hb9'.block⟩))
    all_goals
      go_wp2_with fail
      go_ret2
      exact ⟨two_eq HR.out.1.symm HR.out.2.symm, HW.trans (hb9.mono HW.size)⟩

end Go.Proofs.Ytggojffmfjeikaa
