/- Valid jobs: by the model and by the program. -/
import Derived.Test.YtiimebiecihpkaaVr
import Derived.Test.YtiimebiecihpkaaMxb
import Derived.Test.YtiimebiecihpkaaAre
namespace Go.Proofs.Ytiimebiecihpkaa
open Go.RowKit
set_option linter.unusedVariables false

/-- the first i rows consist of k numbers each -/
def rowsB (ls : List (List Int)) (k : Int) : Nat → Bool
  | 0 => true
  | i + 1 => rowsB ls k i && areB (ls.getD i []) k
theorem rowsB_bad {ls : List (List Int)} {k : Int} {i n : Nat} (hi : i < n) (h : areB (ls.getD i []) k = false) : rowsB ls k n = false := by
  induction n with
  | zero => omega
  | succ n ih =>
    unfold rowsB
    by_cases e : i = n
    · subst e; rw [h, Bool.and_false]
    · rw [ih (by omega), Bool.false_and]
theorem rowsB_step {ls : List (List Int)} {k : Int} {i : Nat} (h : rowsB ls k i = true) (h2 : areB (ls.getD i []) k = true) : rowsB ls k (i + 1) = true := by
  show (rowsB ls k i && areB (ls.getD i []) k) = true
  rw [h, h2]; rfl
/-- how many parameters the function has -/
def parI (fs : List Fn) (fu : Int) : Int := (fs.getD fu.toNat noFn).params
/-- the job is valid -/
def jobB (fs : List Fn) (fu sh : Int) (pt : List Int) (ls : List (List Int)) : Bool :=
  progB fs && (decide (0 ≤ fu ∧ fu < (fs.length : Int)) && (decide (0 ≤ sh ∧ sh ≤ parI fs fu) && (areB pt sh && (decide ((ls.length : Int) ≤ 10) && rowsB ls (parI fs fu - sh) ls.length))))
theorem progB_par {fs : List Fn} {f : Int} (h : FnAt fs f) : 0 ≤ parI fs f ∧ parI fs f ≤ 12 := by
  obtain ⟨h1, h2, h3⟩ := h
  unfold progB at h1
  rw [Bool.and_eq_true] at h1
  have := List.all_eq_true.1 h1.2 f.toNat (by rw [List.mem_range]; omega)
  rw [fnB_eq, Bool.and_eq_true, Bool.and_eq_true] at this
  exact of_decide_eq_true this.2.1
theorem jobB_no {fs : List Fn} {fu sh : Int} {pt : List Int} {ls : List (List Int)} (h : ¬ FnAt fs fu) : jobB fs fu sh pt ls = false := by
  unfold jobB
  cases hp : progB fs with
  | false => rfl
  | true => rw [decide_eq_false (fun h2 => h ⟨hp, h2⟩)]; rfl
theorem jobB_yes {fs : List Fn} {fu sh : Int} {pt : List Int} {ls : List (List Int)} (h : FnAt fs fu) : jobB fs fu sh pt ls = (decide (0 ≤ sh ∧ sh ≤ parI fs fu) && (areB pt sh && (decide ((ls.length : Int) ≤ 10) && rowsB ls (parI fs fu - sh) ls.length))) := by
  unfold jobB
  rw [h.1, decide_eq_true h.2, Bool.true_and, Bool.true_and]

set_option maxRecDepth 100000 in
set_option maxHeartbeats 1600000 in
theorem iLacksNumbers (b : Nat) (k : Int) (a : Option Addr) (ca : Nat) (r : List Int) (w : World) (h : w.cell? ⟨b, 0, none⟩ = some (.int .i64 k)) (ha : At w a r) (hr : r.length ≤ 1048576) :
    Calls Try.prog 120 #[.slice a r.length ca, .pointer (some ⟨b, 0, none⟩)] w fun e w' => e = .returned (.bool (!areB r k)) ∧ w = w' := by
  have HA := Lib.hid (iAre a ca r k w ha hr)
  clear ha hr
  generalize areB r k = x at *
  generalize r.length = m at *
  go_enter Try.func120, Try.ntmps120
  go_wp2_with fail
  refine HA.out.mono ?_; rintro e w1 ⟨rfl, rfl⟩
  go_wp2_with fail
  go_ret
  exact ⟨rfl, rfl⟩

set_option maxRecDepth 100000 in
set_option maxHeartbeats 1600000 in
theorem iIndexRows (b : Nat) (k : Int) (a : Option Addr) (ca : Nat) (ls : List (List Int)) (w : World) (h : w.cell? ⟨b, 0, none⟩ = some (.int .i64 k)) (ha : Mat w a ls) (hs : mSz ls ≤ 1048576) :
    Calls Try.prog 183 #[.slice a ls.length ca, .func (.func 120) #[] #[.pointer (some ⟨b, 0, none⟩)]] w fun e w' => (∃ r : Int, e = .returned (.int .i64 r) ∧ decide (0 ≤ r) = !rowsB ls k ls.length) ∧ w = w' := by
  have hll : ls.length ≤ 1048576 := by unfold mSz at hs; omega
  have HR := fun i => Lib.hid (mSz_row (i := i) hs)
  clear hs
  go_enter Try.func183, Try.ntmps183
  go_wp2_with fail
  go_loop [8] (fun q => ∃ i : Nat, i ≤ ls.length ∧ q = .int .i64 i ∧ Hid (rowsB ls k i = true)) (fun q => ls.length - (intOf q).toNat)
  case atStart => exact ⟨0, Nat.zero_le _, rfl, rfl⟩
  case round =>
    obtain ⟨i, hi, rfl, HX⟩ := hrel
    by_cases hlt : i < ls.length
    · have hii : (i : Int) < (ls.length : Int) := by omega
      obtain ⟨bb, off, rfl, hbl, hall⟩ := ha.resolve_left (by intro e; rw [e] at hlt; simp at hlt)
      obtain ⟨ai, ci, c0, hat⟩ := hall i hlt
      have HC := Lib.hid (iLacksNumbers b k ai ci (ls.getD i []) w h hat (HR i).out)
      have HS : Hid (areB (ls.getD i []) k = true → rowsB ls k (i + 1) = true) := fun h2 => rowsB_step HX.out h2
      have HF : Hid (areB (ls.getD i []) k = false → rowsB ls k ls.length = false) := fun h2 => rowsB_bad hlt h2
      clear hall hat HR HX
      generalize ls.getD i [] = x at *
      cases hok : areB x k with
      | true =>
        have HN := Lib.hid (HS.out hok)
        rw [hok] at HC
        clear HS HF hok
        generalize x.length = m at *
        go_wp2_with fail
        with_reducible refine HC.out.mono ?_; rintro e w1 ⟨rfl, rfl⟩
        go_wp2_with fail
        go_round
        case rel => exact ⟨i + 1, by omega, by go_num, HN.out⟩
        case measure => simp [intOf]; omega
      | false =>
        have HN := Lib.hid (HF.out hok)
        rw [hok] at HC
        clear HS HF hok
        generalize x.length = m at *
        go_wp2_with fail
        with_reducible refine HC.out.mono ?_; rintro e w1 ⟨rfl, rfl⟩
        go_wp2_with fail
        go_ret
        exact ⟨⟨_, rfl, by rw [HN.out]; simp⟩, rfl⟩
    · have hii : ¬ (i : Int) < (ls.length : Int) := by omega
      obtain rfl : i = ls.length := by omega
      have HE := Lib.hid HX.out
      clear HX ha h
      go_wp2_with fail
      go_ret
      exact ⟨⟨_, rfl, by rw [HE.out]; rfl⟩, rfl⟩

set_option maxRecDepth 100000 in
set_option maxHeartbeats 1600000 in
theorem iContainsRows (b : Nat) (k : Int) (a : Option Addr) (ca : Nat) (ls : List (List Int)) (w : World) (h : w.cell? ⟨b, 0, none⟩ = some (.int .i64 k)) (ha : Mat w a ls) (hs : mSz ls ≤ 1048576) :
    Calls Try.prog 121 #[.slice a ls.length ca, .func (.func 120) #[] #[.pointer (some ⟨b, 0, none⟩)]] w fun e w' => e = .returned (.bool (!rowsB ls k ls.length)) ∧ w = w' := by
  have HI := Lib.hid (iIndexRows b k a ca ls w h ha hs)
  clear h ha hs
  go_enter Try.func121, Try.ntmps121
  go_wp2_with fail
  refine HI.out.mono ?_; rintro e w1 ⟨⟨r, rfl, hr⟩, rfl⟩
  go_wp2_with fail
  go_ret
  exact ⟨by rw [← hr]; rfl, rfl⟩

set_option maxRecDepth 100000 in
set_option maxHeartbeats 3200000 in
theorem iValidJob (fs : List Fn) (fu sh : Int) (pt : List Int) (ls : List (List Int)) (ap : Option Addr) (capp : Nat) (apt : Option Addr) (cpt : Nat) (att : Option Addr) (ct : Nat) (w : World)
    (hP : Pat w 0 w.heap.size fs ap) (hsz : pgSize fs ≤ 1048576) (hcap : fs.length ≤ capp) (hcm : capp ≤ 1048576) (hA : At w apt pt) (hAl : pt.length ≤ 1048576) (hM : Mat w att ls) (hMs : mSz ls ≤ 1048576) :
    Calls Try.prog 50 #[.agg #[.slice ap fs.length capp, .int .i64 fu, .int .i64 sh, .slice apt pt.length cpt, .slice att ls.length ct]] w fun e w' => e = .returned (.bool (jobB fs fu sh pt ls)) ∧ Below w.heap.size w w' := by
  have hll : ls.length ≤ 1048576 := by unfold mSz at hMs; omega
  obtain ⟨w0, hw0⟩ : ∃ w0, w0 = w.alloc (.cells #[.slice ap fs.length capp, .int .i64 fu, .int .i64 sh, .slice apt pt.length cpt, .slice att ls.length ct] 72) := ⟨_, rfl⟩
  have hb0 : Below w.heap.size w w0 := by rw [hw0]; exact (Below.refl _ _).alloc (Nat.le_refl _) _
  have z0 : w0.heap.size = w.heap.size + 1 := by rw [hw0]; simp
  have c0 : w0.cell? ⟨w.heap.size, 0, none⟩ = some (.slice ap fs.length capp) := by rw [hw0]; simp [go_sem]
  have c1 : w0.cell? ⟨w.heap.size, 1, none⟩ = some (.int .i64 fu) := by rw [hw0]; simp [go_sem]
  have c2 : w0.cell? ⟨w.heap.size, 2, none⟩ = some (.int .i64 sh) := by rw [hw0]; simp [go_sem]
  have c3 : w0.cell? ⟨w.heap.size, 3, none⟩ = some (.slice apt pt.length cpt) := by rw [hw0]; simp [go_sem]
  have c4 : w0.cell? ⟨w.heap.size, 4, none⟩ = some (.slice att ls.length ct) := by rw [hw0]; simp [go_sem]
  have HF := Lib.hid (iFunctionOf fs ap capp fu w0 ((hP.below hb0).mono (Nat.le_refl _) hb0.size) hsz hcap hcm)
  have HA := Lib.hid (hA.below hb0 (Nat.le_refl _))
  have HM := Lib.hid (hM.below hb0 (Nat.le_refl _))
  clear hP hA hM
  go_enter Try.func50, Try.ntmps50
  go_wp2_with fail
  rw [← hw0]
  clear hw0
  refine HF.out.mono ?_; rintro e w1 ⟨hb1, ⟨hn, c, hc, rfl⟩ | ⟨hy, af, cf, rfl⟩⟩
  · have HB := Lib.hid (jobB_no (sh := sh) (pt := pt) (ls := ls) hn)
    have hB1 := hb0.trans (hb1.mono (by omega))
    have hne : (c != 0) = true := by rw [bne, hc]; rfl
    clear HF hn HA HM c0 c1 c2 c3 c4
    go_wp2_with fail
    go_ret
    exact ⟨ret_bool HB.out.symm, hB1.alloc hB1.size _⟩
  · have HB := Lib.hid (jobB_yes (sh := sh) (pt := pt) (ls := ls) hy)
    have hpar := progB_par hy
    have hB1 := hb0.trans (hb1.mono (by omega))
    have z1 := hb1.size
    have e2 := (hb1.cell (p := ⟨w.heap.size, 2, none⟩) (by show w.heap.size < _; omega)).trans c2
    have e3 := (hb1.cell (p := ⟨w.heap.size, 3, none⟩) (by show w.heap.size < _; omega)).trans c3
    have e4 := (hb1.cell (p := ⟨w.heap.size, 4, none⟩) (by show w.heap.size < _; omega)).trans c4
    have HA1 := Lib.hid (HA.out.below hb1 (Nat.le_refl _))
    have HM1 := Lib.hid (HM.out.below hb1 (Nat.le_refl _))
    have epar : parI fs fu = (fs.getD fu.toNat noFn).params := rfl
    rw [← epar]
    clear HF hy HA HM c0 c1 c2 c3 c4 hb0 hb1 epar
    generalize (fs.getD fu.toNat noFn).name = nm
    generalize (fs.getD fu.toNat noFn).outs.len = mo
    generalize parI fs fu = pa at *
    obtain ⟨w2, hw2⟩ : ∃ w2, w2 = w1.alloc (.cells #[.string nm, .int .i64 pa, .slice af mo cf] 151) := ⟨_, rfl⟩
    have b2 : Below w1.heap.size w1 w2 := by rw [hw2]; exact (Below.refl _ _).alloc (Nat.le_refl _) _
    have f1 : w2.cell? ⟨w1.heap.size, 1, none⟩ = some (.int .i64 pa) := by rw [hw2]; simp [go_sem]
    have z2 : w2.heap.size = w1.heap.size + 1 := by rw [hw2]; simp
    have g2 := (b2.cell (p := ⟨w.heap.size, 2, none⟩) (by show w.heap.size < _; omega)).trans e2
    have g3 := (b2.cell (p := ⟨w.heap.size, 3, none⟩) (by show w.heap.size < _; omega)).trans e3
    have g4 := (b2.cell (p := ⟨w.heap.size, 4, none⟩) (by show w.heap.size < _; omega)).trans e4
    have hB2 := hB1.trans (b2.mono (by omega))
    have HX := fun W => Lib.hid (iIndex sh (pa + 1) W)
    have HQ := Lib.hid (iAre apt cpt pt sh w2 (HA1.out.below b2 (Nat.le_refl _)) hAl)
    have HM2 := Lib.hid (HM1.out.below b2 (Nat.le_refl _))
    have HD : Hid (decide (0 ≤ sh ∧ sh ≤ pa) = decide (0 ≤ sh ∧ sh < pa + 1)) := by show _ = _; congr 1; exact propext ⟨fun h => by omega, fun h => by omega⟩
    rw [HD.out] at HB
    have lw : w.heap.size < w1.heap.size := by omega
    clear HD HA1 HM1 b2 hB1
    by_cases hsh : 0 ≤ sh ∧ sh < pa + 1
    rotate_left
    · rw [decide_eq_false hsh] at HX HB
      rw [Bool.false_and] at HB
      clear hsh HQ HM2
      go_wp2_with fail
      rw [← hw2]
      clear hw2 e2 e3 e4
      refine (HX _).out.mono ?_; rintro e w3 ⟨rfl, rfl⟩
      go_wp2_with fail
      go_ret
      exact ⟨ret_bool HB.out.symm, hB2⟩
    rw [decide_eq_true hsh] at HX HB
    rw [Bool.true_and] at HB
    cases hq : areB pt sh with
    | false =>
      rw [hq] at HQ HB
      rw [Bool.false_and] at HB
      clear hq HM2
      go_wp2_with fail
      rw [← hw2]
      clear hw2 e2 e3 e4
      refine (HX _).out.mono ?_; rintro e w3 ⟨rfl, rfl⟩
      go_wp2_with fail
      refine HQ.out.mono ?_; rintro e w3 ⟨rfl, rfl⟩
      go_wp2_with fail
      go_ret
      exact ⟨ret_bool HB.out.symm, hB2⟩
    | true =>
      rw [hq] at HQ HB
      rw [Bool.true_and] at HB
      clear hq
      obtain ⟨w4, hw4⟩ : ∃ w4, w4 = w2.alloc (.cells #[.int .i64 (pa - sh)] 2) := ⟨_, rfl⟩
      have b4 : Below w2.heap.size w2 w4 := by rw [hw4]; exact (Below.refl _ _).alloc (Nat.le_refl _) _
      have k0 : w4.cell? ⟨w2.heap.size, 0, none⟩ = some (.int .i64 (pa - sh)) := by rw [hw4]; simp [go_sem]
      have k4 := (b4.cell (p := ⟨w.heap.size, 4, none⟩) (by show w.heap.size < _; omega)).trans g4
      have hB4 := hB2.trans (b4.mono (by omega))
      have HR := Lib.hid (iContainsRows w2.heap.size (pa - sh) att ct ls w4 k0 (HM2.out.below b4 (Nat.le_refl _)) hMs)
      rw [z2] at HR
      clear HM2
      by_cases h10 : (ls.length : Int) ≤ 10
      · rw [decide_eq_true h10, Bool.true_and] at HB
        generalize rowsB ls (pa - sh) ls.length = rr at *
        go_wp2_with fail
        rw [← hw2]
        clear hw2 e2 e3 e4
        refine (HX _).out.mono ?_; rintro e w3 ⟨rfl, rfl⟩
        go_wp2_with fail
        refine HQ.out.mono ?_; rintro e w3 ⟨rfl, rfl⟩
        go_wp2_with fail
        rw [← hw4]
        clear hw4
        refine HR.out.mono ?_; rintro e w3 ⟨rfl, rfl⟩
        go_wp2_with fail
        go_ret
        exact ⟨ret_bool (by rw [HB.out]; first | done | simp), hB4⟩
      · rw [decide_eq_false h10, Bool.false_and] at HB
        clear HR
        go_wp2_with fail
        rw [← hw2]
        clear hw2 e2 e3 e4
        refine (HX _).out.mono ?_; rintro e w3 ⟨rfl, rfl⟩
        go_wp2_with fail
        refine HQ.out.mono ?_; rintro e w3 ⟨rfl, rfl⟩
        go_wp2_with fail
        rw [← hw4]
        clear hw4
        go_ret
        exact ⟨ret_bool HB.out.symm, hB4⟩

end Go.Proofs.Ytiimebiecihpkaa
