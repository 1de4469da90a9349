/- Valid jobs by the model. -/
import Derived.Test.YtiimebiecihpkaaVj
import Derived.BigQuiet
namespace Go.Proofs.Ytiimebiecihpkaa
open Go.RowKit
set_option linter.unusedVariables false

theorem same_q2 {P : Program} {f : FuncId} {args : Array Value} {w : World} {a n : Nat} {v : Value}
    (h : Calls P f args (w.drewN (a + n)) fun e w' => e = .returned v ∧ w.drewN (a + n) = w') : Calls P f args (w.drewN (a + n)) fun e w'' => e = .returned v ∧ ∃ m, w'' = w.drewN (a + m) :=
  h.mono fun _ _ ⟨he, hm⟩ => ⟨he, n, hm.symm⟩
theorem Mat.drw {w wr : World} {a : Option Addr} {ls : List (List Int)} (h : Mat w a ls) (hd : Drw w wr) : Mat wr a ls := h.below hd.below (Nat.le_refl _)

set_option maxRecDepth 100000 in
set_option maxHeartbeats 6400000 in
theorem sJob (fs : List Fn) (fu sh : Int) (pt : List Int) (ls : List (List Int)) (ap : Option Addr) (capp : Nat) (apt : Option Addr) (cpt : Nat) (att : Option Addr) (ct : Nat) (bj : Nat) (w : World)
    (j0 : w.cell? ⟨bj, 0, none⟩ = some (.slice ap fs.length capp)) (j1 : w.cell? ⟨bj, 1, none⟩ = some (.int .i64 fu)) (j2 : w.cell? ⟨bj, 2, none⟩ = some (.int .i64 sh)) (j3 : w.cell? ⟨bj, 3, none⟩ = some (.slice apt pt.length cpt)) (j4 : w.cell? ⟨bj, 4, none⟩ = some (.slice att ls.length ct))
    (hP : Pat w 0 w.heap.size fs ap) (hsz : pgSize fs ≤ 1048576) (hA : At w apt pt) (hAl : pt.length ≤ 1048576) (hM : Mat w att ls) (hMs : mSz ls ≤ 1048576) :
    Calls Try.prog 119 #[.pointer (some ⟨bj, 0, none⟩)] w (Quiet (.bool (jobB fs fu sh pt ls)) w) := by
  have hl : fs.length ≤ 1048576 := by unfold pgSize at hsz; omega
  have hll : ls.length ≤ 1048576 := by unfold mSz at hMs; omega
  have HR := fun i => Lib.hid (mSz_row (i := i) hMs)
  have HOK := fun m => Lib.hid (sOkP fs bj 0 ap capp (w.drewN m) j0 (hP.agree (w' := w.drewN m) (fun _ _ _ => rfl)) hsz)
  cases hp : progB fs with
  | false =>
    have HB : Hid (jobB fs fu sh pt ls = false) := by show _ = _; unfold jobB; rw [hp]; rfl
    rw [hp] at HOK
    clear hp hP hA hM HR
    go_enter Try.func119, Try.ntmps119
    go_wp2_with fail
    go_quiet ((go_at_call 107; with_reducible exact quiet_q (HOK _).out))
    go_wp2_with fail
    go_ret
    exact ⟨ret_bool HB.out.symm, _, rfl⟩
  | true =>
    rw [hp] at HOK
    by_cases hf : 0 ≤ fu ∧ fu < (fs.length : Int)
    rotate_left
    · have HB : Hid (jobB fs fu sh pt ls = false) := by show _ = _; unfold jobB; rw [decide_eq_false hf, Bool.false_and, Bool.and_false]
      have HI := fun W => Lib.hid (inF fu 0 ((fs.length : Int) - 1) (by omega) W)
      clear hp hf hP hA hM HR
      go_enter Try.func119, Try.ntmps119
      go_wp2_with fail
      go_quiet ((first | (go_at_call 107; with_reducible exact quiet_q (HOK _).out) | (go_at_call 87; with_reducible exact quiet_same (HI _).out)))
      go_wp2_with fail
      go_ret
      exact ⟨ret_bool HB.out.symm, _, rfl⟩
    have hfa : FnAt fs fu := ⟨hp, hf⟩
    have HB := Lib.hid (jobB_yes (sh := sh) (pt := pt) (ls := ls) hfa)
    have hpar := progB_par hfa
    have HI := fun W => Lib.hid (inT fu 0 ((fs.length : Int) - 1) (by omega) (by omega) W)
    have hfn := hf.2
    obtain ⟨j, rfl⟩ := Int.eq_ofNat_of_zero_le hf.1
    have hj : j < fs.length := by omega
    obtain ⟨bf, of, rfl, hbB, hall⟩ := (hP.resolve_left (by intro e; rw [e] at hj; simp at hj))
    obtain ⟨hr, af, cf, f0, f1, f2, _⟩ := hall j hj
    have epar : (fs.getD j noFn).params = parI fs (j : Int) := rfl
    rw [epar] at f1
    clear hall hP hr hf hfa hp epar f0 f2
    generalize parI fs (j : Int) = pa at *
    by_cases hsh : 0 ≤ sh ∧ sh ≤ pa
    rotate_left
    · rw [decide_eq_false hsh, Bool.false_and] at HB
      have HS := fun W => Lib.hid (inF sh 0 pa (by omega) W)
      clear hsh hA hM HR
      go_enter Try.func119, Try.ntmps119
      go_wp2_with fail
      go_quiet ((first | (go_at_call 107; with_reducible exact quiet_q (HOK _).out) | (go_at_call 87; with_reducible exact quiet_same (HI _).out)))
      go_wp2_with fail
      go_quiet (fail)
      go_wp2_with fail
      go_quiet ((go_at_call 87; exact same_q2 (HS _).out))
      go_wp2_with fail
      go_ret
      exact ⟨ret_bool HB.out.symm, by simp only [World.drewN_drewN]; exact ⟨_, rfl⟩⟩
    rw [decide_eq_true hsh, Bool.true_and] at HB
    have HS := fun W => Lib.hid (inT sh 0 pa hsh.1 hsh.2 W)
    by_cases hpl : (pt.length : Int) = sh
    rotate_left
    · rw [areB_len hpl, Bool.false_and] at HB
      have hne : ((pt.length : Int) != sh) = true := by simp [hpl]
      clear hA hM HR hpl
      go_enter Try.func119, Try.ntmps119
      go_wp2_with fail
      go_quiet ((first | (go_at_call 107; with_reducible exact quiet_q (HOK _).out) | (go_at_call 87; with_reducible exact quiet_same (HI _).out)))
      go_wp2_with fail
      go_quiet (fail)
      go_wp2_with fail
      go_quiet ((go_at_call 87; exact same_q2 (HS _).out))
      go_wp2_with fail
      go_ret
      exact ⟨ret_bool HB.out.symm, by simp only [World.drewN_drewN]; exact ⟨_, rfl⟩⟩
    rw [areB_of hpl] at HB
    have hne : ((pt.length : Int) != sh) = false := by simp [hpl]
    have HN := fun (W : World) (hW : Drw w W) => Lib.hid (sNumbers apt cpt pt W (hA.drw hW) (by omega))
    clear hA
    cases hq : okNums pt with
    | false =>
      rw [hq] at HN HB
      rw [Bool.false_and] at HB
      clear hM HR hpl hq
      go_enter Try.func119, Try.ntmps119
      go_wp2_with fail
      go_quiet ((first | (go_at_call 107; with_reducible exact quiet_q (HOK _).out) | (go_at_call 87; with_reducible exact quiet_same (HI _).out)))
      go_wp2_with fail
      go_quiet (fail)
      go_wp2_with fail
      go_quiet ((first | (go_at_call 87; exact same_q2 (HS _).out) | (go_at_call 77; exact same_q2 (HN _ ⟨_, rfl⟩).out)))
      go_wp2_with fail
      go_ret
      exact ⟨ret_bool HB.out.symm, by simp only [World.drewN_drewN]; exact ⟨_, rfl⟩⟩
    | true =>
    rw [hq] at HN HB
    rw [Bool.true_and] at HB
    clear hq
    by_cases h10 : (ls.length : Int) ≤ 10
    rotate_left
    · rw [decide_eq_false h10, Bool.false_and] at HB
      have hd : decide ((10 : Int) < (ls.length : Int)) = true := decide_eq_true (by omega)
      clear hM HR hpl h10
      go_enter Try.func119, Try.ntmps119
      go_wp2_with fail
      go_quiet ((first | (go_at_call 107; with_reducible exact quiet_q (HOK _).out) | (go_at_call 87; with_reducible exact quiet_same (HI _).out)))
      go_wp2_with fail
      go_quiet (fail)
      go_wp2_with fail
      go_quiet ((first | (go_at_call 87; exact same_q2 (HS _).out) | (go_at_call 77; exact same_q2 (HN _ ⟨_, rfl⟩).out)))
      go_wp2_with fail
      go_ret
      exact ⟨ret_bool HB.out.symm, by simp only [World.drewN_drewN]; exact ⟨_, rfl⟩⟩
    · rw [decide_eq_true h10, Bool.true_and] at HB
      have hd : decide ((10 : Int) < (ls.length : Int)) = false := decide_eq_false (by omega)
      have HM := Lib.hid hM
      clear hM h10
      go_enter Try.func119, Try.ntmps119
      go_wp2_with fail
      go_quiet ((first | (go_at_call 107; with_reducible exact quiet_q (HOK _).out) | (go_at_call 87; with_reducible exact quiet_same (HI _).out)))
      go_wp2_with fail
      go_quiet (fail)
      go_wp2_with fail
      go_quiet ((first | (go_at_call 87; exact same_q2 (HS _).out) | (go_at_call 77; exact same_q2 (HN _ ⟨_, rfl⟩).out)))
      go_wp2_with fail
      clear HN HS HI HOK hd hne hpl f1 j0 j1 j3
      go_loopw [4] (fun q wr => ∃ i : Nat, i ≤ ls.length ∧ q = .int .i64 i ∧ Hid (rowsB ls (pa - sh) i = true) ∧ Hid (Drw w wr)) (fun q _ => ls.length - (intOf q).toNat)
      case atStart => exact ⟨0, Nat.zero_le _, rfl, rfl, (by show Drw _ _; simp only [World.drewN_drewN]; exact ⟨_, rfl⟩)⟩
      case round =>
        obtain ⟨i, hi, rfl, HX, HW⟩ := hrel
        have g2 := HW.out.cell.trans j2
        have g4 := HW.out.cell.trans j4
        by_cases hlt : i < ls.length
        · have hii : (i : Int) < (ls.length : Int) := by omega
          obtain ⟨bb, off, rfl, hbl, hall⟩ := (HM.out.drw HW.out).resolve_left (by intro e; rw [e] at hlt; simp at hlt)
          obtain ⟨ai, ci, c0, hat⟩ := hall i hlt
          have hrw := (HR i).out
          have HC := fun (W : World) (hW : Drw wr W) => Lib.hid (sNumbers ai ci (ls.getD i []) W (hat.drw hW) (by omega))
          have HS : Hid (areB (ls.getD i []) (pa - sh) = true → rowsB ls (pa - sh) (i + 1) = true) := fun h2 => rowsB_step HX.out h2
          have HF : Hid (areB (ls.getD i []) (pa - sh) = false → rowsB ls (pa - sh) ls.length = false) := fun h2 => rowsB_bad hlt h2
          clear hall hat HR HX j2 j4
          generalize ls.getD i [] = x at *
          by_cases hln : (x.length : Int) = pa - sh
          · have hne : ((x.length : Int) != pa - sh) = false := by simp [hln]
            cases hok : okNums x with
            | true =>
              have HN := Lib.hid (HS.out (by rw [areB_of hln, hok]))
              rw [hok] at HC
              clear HS HF hok hln
              generalize x.length = m at *
              go_wp2_with fail
              go_quiet ((go_at_call 77; exact quiet_same (HC _ ⟨_, rfl⟩).out))
              go_wp2_with fail
              go_roundw
              case rel => exact ⟨i + 1, by omega, by go_num, HN.out, HW.out.more _⟩
              case measure => simp [intOf]; omega
            | false =>
              have HN := Lib.hid (HF.out (by rw [areB_of hln, hok]))
              rw [HN.out] at HB
              rw [hok] at HC
              clear HS HF hok hln
              generalize x.length = m at *
              go_wp2_with fail
              go_quiet ((go_at_call 77; exact quiet_same (HC _ ⟨_, rfl⟩).out))
              go_wp2_with fail
              go_ret
              exact ⟨ret_bool HB.out.symm, HW.out.more _⟩
          · have hne : ((x.length : Int) != pa - sh) = true := by simp [hln]
            have HN := Lib.hid (HF.out (areB_len hln))
            rw [HN.out] at HB
            clear HS HF hln HC
            generalize x.length = m at *
            go_wp2_with fail
            go_quiet (fail)
            go_wp2_with fail
            go_ret
            exact ⟨ret_bool HB.out.symm, HW.out.more _⟩
        · have hii : ¬ (i : Int) < (ls.length : Int) := by omega
          obtain rfl : i = ls.length := by omega
          rw [HX.out] at HB
          clear HX HM
          go_wp2_with fail
          go_ret
          exact ⟨ret_bool HB.out.symm, HW.out⟩

set_option maxRecDepth 100000 in
set_option maxHeartbeats 3200000 in
theorem sValidJob (fs : List Fn) (fu sh : Int) (pt : List Int) (ls : List (List Int)) (ap : Option Addr) (capp : Nat) (apt : Option Addr) (cpt : Nat) (att : Option Addr) (ct : Nat) (w : World)
    (hP : Pat w 0 w.heap.size fs ap) (hsz : pgSize fs ≤ 1048576) (hA : At w apt pt) (hAl : pt.length ≤ 1048576) (hM : Mat w att ls) (hMs : mSz ls ≤ 1048576) :
    Calls Try.prog 48 #[.agg #[.slice ap fs.length capp, .int .i64 fu, .int .i64 sh, .slice apt pt.length cpt, .slice att ls.length ct]] w fun e w' => e = .returned (.bool (jobB fs fu sh pt ls)) ∧ Below w.heap.size w w' := by
  obtain ⟨w0, hw0⟩ : ∃ w0, w0 = w.alloc (.cells #[.slice ap fs.length capp, .int .i64 fu, .int .i64 sh, .slice apt pt.length cpt, .slice att ls.length ct] 72) := ⟨_, rfl⟩
  have hb0 : Below w.heap.size w w0 := by rw [hw0]; exact (Below.refl _ _).alloc (Nat.le_refl _) _
  have c0 : w0.cell? ⟨w.heap.size, 0, none⟩ = some (.slice ap fs.length capp) := by rw [hw0]; simp [go_sem]
  have c1 : w0.cell? ⟨w.heap.size, 1, none⟩ = some (.int .i64 fu) := by rw [hw0]; simp [go_sem]
  have c2 : w0.cell? ⟨w.heap.size, 2, none⟩ = some (.int .i64 sh) := by rw [hw0]; simp [go_sem]
  have c3 : w0.cell? ⟨w.heap.size, 3, none⟩ = some (.slice apt pt.length cpt) := by rw [hw0]; simp [go_sem]
  have c4 : w0.cell? ⟨w.heap.size, 4, none⟩ = some (.slice att ls.length ct) := by rw [hw0]; simp [go_sem]
  have HC := Lib.hid (sJob fs fu sh pt ls ap capp apt cpt att ct w.heap.size w0 c0 c1 c2 c3 c4 ((hP.below hb0).mono (Nat.le_refl _) hb0.size) hsz (hA.below hb0 (Nat.le_refl _)) hAl (hM.below hb0 (Nat.le_refl _)) hMs)
  clear hP hA hM c0 c1 c2 c3 c4
  go_enter Try.func48, Try.ntmps48
  go_wp2_with fail
  rw [← hw0]
  clear hw0
  refine (HC.out).mono ?_; rintro e w' ⟨rfl, hq⟩
  obtain ⟨q, rfl⟩ := hq
  go_wp2_with fail
  go_ret
  exact ⟨rfl, below_drewN hb0 _⟩

end Go.Proofs.Ytiimebiecihpkaa
