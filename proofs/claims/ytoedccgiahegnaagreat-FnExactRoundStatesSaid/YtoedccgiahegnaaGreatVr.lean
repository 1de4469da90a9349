/- The program: the index of a name. The program: which functions are valid. The program: which programs and expressions are valid. The function of a program at an index; rounds: by the model and by the program. -/
import Derived.StillTailTactics
import Derived.Test.YtoedccgiahegnaaGreatIh
import Derived.Test.YtoedccgiahegnaaGreatIj
import Derived.Test.YtoedccgiahegnaaGreatSy
namespace Go.Proofs.YtoedccgiahegnaaGreat
open Go.RowKit
set_option linter.unusedVariables false

/-- The first of n functions with a name, or -1. -/
def IdxIs (fs : List Fn) (s : ByteArray) (n : Nat) (r : Int) : Prop :=
  (r = -1 ∧ ∀ j, j < n → (fs.getD j noFn).name ≠ s) ∨ (∃ j, j < n ∧ r = (j : Int) ∧ (fs.getD j noFn).name = s ∧ ∀ t, t < j → (fs.getD t noFn).name ≠ s)
def IdxRes (fs : List Fn) (s : ByteArray) (n : Nat) (w : World) (e : Ending) (w' : World) : Prop := ∃ r, e = .returned (.int .i64 r) ∧ IdxIs fs s n r ∧ Below w.heap.size w w'

set_option maxRecDepth 100000 in
set_option maxHeartbeats 1600000 in
theorem iSearch (fs : List Fn) (ap : Option Addr) (fn capp : Nat) (s : ByteArray) (b : Nat) (w : World) (hP : Pat w 0 w.heap.size fs ap) (hfn : fn ≤ fs.length) (hl : fs.length ≤ 1048576) (hb : b < w.heap.size) (hc : w.cell? ⟨b, 0, none⟩ = some (.string s)) :
    Calls Tryz.prog 145 #[.slice ap fn capp, .func (Fn.func 146) #[] #[.pointer (some ⟨b, 0, none⟩)]] w (IdxRes fs s fn w) := by
  have hfi : (fn : Int) ≤ 1048576 := by omega
  go_enter Tryz.func145, Tryz.ntmps145
  go_wp2_with fail
  go_loopw [8] (fun q wr => ∃ i : Nat, i ≤ fn ∧ q = .int .i64 i ∧ Hid (∀ t, t < i → (fs.getD t noFn).name ≠ s) ∧ Below w.heap.size w wr) (fun q _ => fn - (intOf q).toNat)
  case atStart => exact ⟨0, Nat.zero_le _, rfl, (fun t ht => by omega), Below.refl _ _⟩
  case round =>
    obtain ⟨i, hi, rfl, HX, hw⟩ := hrel
    by_cases hlt : i < fn
    · have hii : (i : Int) < (fn : Int) := by omega
      obtain ⟨bf, of, rfl, hbB, hall⟩ := ((hP.below hw).resolve_left (by intro e; rw [e] at hfn; simp at hfn; omega))
      obtain ⟨hr, af, cf, f0, f1, f2, _⟩ := hall i (by omega)
      have hcw := (hw.cell (p := ⟨b, 0, none⟩) hb).trans hc
      have hbw : b < wr.heap.size := Nat.lt_of_lt_of_le hb hw.size
      have hB1 : ∀ o, Below w.heap.size w (wr.alloc o) := fun o => hw.alloc hw.size o
      by_cases heq : (fs.getD i noFn).name = s
      · have HI : Hid (IdxIs fs s fn (i : Int)) := .inr ⟨i, hlt, rfl, heq, HX.out⟩
        rw [heq] at f0
        clear hall hP hr HX heq hc
        generalize (fs.getD i noFn).params = pa at f1
        generalize (fs.getD i noFn).outs.len = mo at f2
        go_wp2
        go_ret
        exact ⟨_, rfl, HI.out, hB1 _⟩
      · have HX2 : Hid (∀ t, t < i + 1 → (fs.getD t noFn).name ≠ s) := by
          intro t ht
          by_cases hti : t = i
          · rw [hti]; exact heq
          · exact HX.out t (by omega)
        generalize (fs.getD i noFn).name = nm at f0 heq
        have hq := str_ne heq
        clear hall hP hr HX heq hc
        generalize (fs.getD i noFn).params = pa at f1
        generalize (fs.getD i noFn).outs.len = mo at f2
        go_wp2
        go_roundw
        case rel => exact ⟨i + 1, by omega, by go_num, HX2, hB1 _⟩
        case measure => simp [intOf]; omega
    · have hii : ¬ (i : Int) < (fn : Int) := by omega
      have HI : Hid (IdxIs fs s fn (-1)) := .inl ⟨rfl, fun j hj => HX.out j (by omega)⟩
      clear hP HX
      go_wp2_with fail
      go_ret
      exact ⟨_, rfl, HI.out, hw⟩

set_option maxRecDepth 100000 in
set_option maxHeartbeats 1600000 in
theorem iIndexOf (fs : List Fn) (ap : Option Addr) (fn capp : Nat) (s : ByteArray) (w : World) (hP : Pat w 0 w.heap.size fs ap) (hfn : fn ≤ fs.length) (hl : fs.length ≤ 1048576) :
    Calls Tryz.prog 131 #[.slice ap fn capp, .string s] w (IdxRes fs s fn w) := by
  have hB1 : ∀ o, Below w.heap.size w (w.alloc o) := fun o => (Below.refl _ _).alloc (Nat.le_refl _) o
  have HC := Lib.hid (iSearch fs ap fn capp s w.heap.size (w.alloc (.cells #[.string s] 9)) ((hP.below (hB1 _)).mono (Nat.le_refl _) (by simp)) hfn hl (by simp) (by simp [go_sem]))
  clear hP
  go_enter Tryz.func131, Tryz.ntmps131
  go_wp2_with fail
  refine (HC.out).mono ?_; rintro e w' ⟨r, rfl, hI, hb⟩
  have hI2 := Lib.hid hI
  clear hI
  go_wp2_with fail
  go_ret
  exact ⟨r, rfl, hI2.out, (hB1 _).trans (hb.mono (by simp))⟩

end Go.Proofs.YtoedccgiahegnaaGreat

namespace Go.Proofs.YtoedccgiahegnaaGreat
open Go.RowKit
set_option linter.unusedVariables false

theorem idx_fresh {fs : List Fn} {s : ByteArray} {i : Nat} {r : Int} (h : IdxIs fs s i r) (hi : i ≤ fs.length) : (0 ≤ r ∧ freshB fs s i = false) ∨ (r < 0 ∧ freshB fs s i = true) := by
  rcases h with ⟨rfl, h⟩ | ⟨j, hj, rfl, he, _⟩
  · exact .inr ⟨by omega, freshB_t h⟩
  · exact .inl ⟨by omega, freshB_f hj (by omega) he⟩

set_option maxRecDepth 100000 in
set_option maxHeartbeats 6400000 in
theorem iFunc (fs : List Fn) (ap : Option Addr) (i capp : Nat) (f : Fn) (a : Option Addr) (cap : Nat) (w : World) (hP : Pat w 0 w.heap.size fs ap) (hi : i < fs.length) (hfi : fs.getD i noFn = f) (hF : Fat w 0 w.heap.size f.outs a) (hr : RF f) (hsz : pgSize fs ≤ 1048576) :
    Calls Tryz.prog 113 #[.slice ap i capp, .agg #[.string f.name, .int .i64 f.params, .slice a f.outs.len cap]] w fun e w' => e = .returned (.bool (fnB fs i)) ∧ Below w.heap.size w w' := by
  have hl : fs.length ≤ 1048576 := by unfold pgSize at hsz; omega
  have HE := Lib.hid (fnB_eq fs i)
  obtain ⟨hns, hos⟩ := fnsSize_name hi
  have HT : Hid (fnTail fs i = accF fs (i : Int) (fs.getD i noFn).params 0 0 60 400 (fs.getD i noFn).outs) := rfl
  rw [hfi] at HE hns hos HT
  clear hfi
  obtain ⟨nm, pa, ou⟩ := f
  dsimp only at HE hns hos HT hF ⊢
  have hpr := hr.2.1
  dsimp only at hpr
  have hpo : ou.len ≤ 1048576 := by have := Fo.len_le ou; omega
  have hns2 : nm.size ≤ 9223372036854775806 := by omega
  have hii : (i : Int) ≤ 1048576 := by omega
  generalize fnB fs i = T at HE
  have HNm := fun W => Lib.hid (iName nm W hns2)
  have B1 : ∀ o, Below w.heap.size w (w.alloc o) := fun o => (Below.refl _ _).alloc (Nat.le_refl _) o
  have HIx := Lib.hid (iIndexOf fs ap i capp nm (w.alloc (.cells #[.string nm, .int .i64 pa, .slice a ou.len cap] 63)) ((hP.below (B1 _)).mono (Nat.le_refl _) (by simp)) (by omega) (by omega))
  have hb0 := B1 (.cells #[.string nm, .int .i64 pa, .slice a ou.len cap] 63)
  clear hns hns2 hr
  cases h1 : isNm nm with
  | false =>
    have HF : Hid (T = false) := by
      show _ = _
      rw [HE.out, h1]; rfl
    rw [h1] at HNm
    clear HE h1 hF hP HIx B1
    go_enter Tryz.func113, Tryz.ntmps113
    go_wp2_with fail
    refine (HNm _).out.mono ?_; rintro e w' ⟨rfl, rfl⟩
    go_wp2_with fail
    go_ret
    exact ⟨ret_bool HF.out.symm, hb0⟩
  | true =>
    rw [h1] at HNm
    go_enter Tryz.func113, Tryz.ntmps113
    go_wp2_with fail
    refine (HNm _).out.mono ?_; rintro e w' ⟨rfl, rfl⟩
    go_wp2_with fail
    refine (HIx.out).mono ?_; rintro e w1 ⟨r, rfl, hI, hb1⟩
    obtain ⟨hc1, hf1⟩ := bcell hb1
    have hz1 := hb1.size
    simp at hz1
    have hB1 := hb0.trans (hb1.mono (by simp))
    have x0 : w1.cell? ⟨w.heap.size, 0, none⟩ = some (.string nm) := by rw [hc1 _ _ (by simp)]; simp [go_sem]
    have x1 : w1.cell? ⟨w.heap.size, 1, none⟩ = some (.int .i64 pa) := by rw [hc1 _ _ (by simp)]; simp [go_sem]
    have x2 : w1.cell? ⟨w.heap.size, 2, none⟩ = some (.slice a ou.len cap) := by rw [hc1 _ _ (by simp)]; simp [go_sem]
    clear hc1 hf1 HIx B1
    rcases idx_fresh hI (by omega) with ⟨hr0, hfr⟩ | ⟨hr0, hfr⟩
    · have HF : Hid (T = false) := by
        show _ = _
        rw [HE.out, hfr]; simp
      have hd : decide (0 ≤ r) = true := decide_eq_true hr0
      clear HE h1 hF hP hI hfr
      go_wp2_with fail
      go_ret
      exact ⟨ret_bool HF.out.symm, hB1⟩
    · have hd : decide (0 ≤ r) = false := decide_eq_false (by omega)
      clear hI
      by_cases h2 : 0 ≤ pa ∧ pa ≤ 12
      · have hd2 : decide (pa < 0) = false := decide_eq_false (by omega)
        have hd3 : decide (12 < pa) = false := decide_eq_false (by omega)
        by_cases h3 : 1 ≤ ou.len ∧ ou.len ≤ 12
        · have hd4 : decide ((ou.len : Int) < 1) = false := decide_eq_false (by omega)
          have hd5 : decide (12 < (ou.len : Int)) = false := decide_eq_false (by omega)
          have HE2 : Hid (T = accF fs (i : Int) pa 0 0 60 400 (Fo.drop 0 ou)) := by
            show _ = _
            rw [HE.out, h1, hfr, decide_eq_true h2, decide_eq_true h3, Bool.true_and, Bool.true_and, Bool.true_and, Bool.true_and, HT.out, Fo.drop_zero]
          clear HE h1 hfr HT
          obtain ⟨w2, hw2⟩ : ∃ w2, w2 = (w1.alloc (.cells #[.slice ap i capp, .int .i64 pa] 198)).alloc (.cells #[.int .i64 400] 2) := ⟨_, rfl⟩
          have z2 : w2.heap.size = w1.heap.size + 2 := by rw [hw2]; simp
          have q0 : w2.cell? ⟨w1.heap.size + 1, 0, none⟩ = some (.int .i64 400) := by rw [hw2]; simp [go_sem]
          have qz : w2.frozen? ⟨w1.heap.size + 1, 0, none⟩ = false := by rw [hw2]; simp [go_sem]
          have s0 : w2.cell? ⟨w1.heap.size, 0, none⟩ = some (.slice ap i capp) := by rw [hw2]; simp [go_sem]
          have s1 : w2.cell? ⟨w1.heap.size, 1, none⟩ = some (.int .i64 pa) := by rw [hw2]; simp [go_sem]
          have hb2 : Below w1.heap.size w1 w2 := by rw [hw2]; exact ((Below.refl _ _).alloc (Nat.le_refl _) _).alloc (by simp) _
          have y2 := (hb2.cell (p := ⟨w.heap.size, 2, none⟩) (by show w.heap.size < _; omega)).trans x2
          have hB2 : Below w.heap.size w w2 := hB1.trans (hb2.mono (by omega))
          have hP2 : Pat w2 0 (w1.heap.size + 1) fs ap := (hP.below hB2).mono (Nat.le_refl _) (by omega)
          have hF2 : Fat w2 0 (w1.heap.size + 1) ou a := (hF.below hB2).mono (Nat.le_refl _) (by omega)
          clear hP hF
          have lw0 : w.heap.size < w1.heap.size := by omega
          have hg0 : w2.grownBy w2 (some (w1.heap.size + 1)) := World.grownBy.refl _ _
          go_wp2_with fail
          rw [← hw2]
          clear hw2 hb2
          go_loopw [48] (fun q wr => ∃ (t : Nat) (y : Int), t ≤ ou.len ∧ q = .int .i64 t ∧ 0 ≤ y ∧ y ≤ 400 ∧ Hid (T = accF fs (i : Int) pa 0 t 60 y (Fo.drop t ou)) ∧
              wr.cell? ⟨w1.heap.size + 1, 0, none⟩ = some (.int .i64 y) ∧ wr.frozen? ⟨w1.heap.size + 1, 0, none⟩ = false ∧ w2.grownBy wr (some (w1.heap.size + 1))) (fun q _ => ou.len - (intOf q).toNat)
          case atStart => exact ⟨0, 400, Nat.zero_le _, rfl, by omega, by omega, HE2, q0, qz, hg0⟩
          case round =>
            obtain ⟨t, y, ht, rfl, hy0, hy1, HX, hq, hz, hgw⟩ := hrel
            clear HE2 hg0 q0 qz
            have hws := hgw.size
            have t0 := hgw.cell s0 (by simp)
            have t1 := hgw.cell s1 (by simp)
            have hbw : Below w.heap.size w wr := ⟨hgw.os.trans hB2.os, hgw.tape.trans hB2.tape, hgw.output.trans hB2.output, Nat.le_trans hB2.size hws, fun j hj => (hgw.block j (by have := hB2.size; omega) (by simp; omega)).trans (hB2.block j hj)⟩
            clear s0 s1
            by_cases hlt : t < ou.len
            · have hti : (t : Int) < (ou.len : Int) := by omega
              have hFr : Fat wr 0 (w1.heap.size + 1) ou a := Fat.agree (fun j _ hj => hgw.block j (by omega) (by simp; omega)) hF2
              have hPr : Pat wr 0 (w1.heap.size + 1) fs ap := hP2.agree (fun j _ hj => hgw.block j (by omega) (by simp; omega))
              obtain ⟨b1, o1, rfl, hbB⟩ := hFr.blk (by omega)
              obtain ⟨k1, n1, p1, c1, kk, a2, cap2, hdr, hr, hkl, d0, d1, d2, d3, d4, hk'⟩ := hFr.node hlt
              have hlt' := Fo.kid_lt hdr
              have HC := fun (W : World) (hW : Below wr.heap.size wr W) => Lib.hid (iAccepts_all fs ap i capp (by omega) (by omega) (kk.size + 1) kk (by omega) k1 n1 p1 c1 a2 cap2 pa 60 y (w1.heap.size + 1) W (hPr.agree (fun j _ hj => hW.block j (by omega))) (Fat.agree (fun j _ hj => hW.block j (by omega)) hk') hr (by omega)
                (by have := hW.size; omega) ((hW.cell (p := ⟨w1.heap.size + 1, 0, none⟩) (by show w1.heap.size + 1 < _; omega)).trans hq) ((hW.frozen (p := ⟨w1.heap.size + 1, 0, none⟩) (by show w1.heap.size + 1 < _; omega)).trans hz) hy0 (by omega) (by omega) (by omega) ⟨by omega, by omega⟩)
              have HU : Hid (T = (accB fs (i : Int) pa 60 y k1 n1 p1 c1 kk && accF fs (i : Int) pa 0 (t + 1) 60 (y - kk.size - 1) (Fo.drop (t + 1) ou))) := by
                show _ = _
                rw [HX.out, hdr, accF_cons]
                show (accB fs (i : Int) (pa + 0) 60 y k1 n1 p1 c1 kk && _) = _
                rw [Int.add_zero]
              have lt1 : w1.heap.size < wr.heap.size := by omega
              clear hFr hPr hk' hF2 hP2 hdr hlt' hkl HX y2 x0 x1 x2
              go_wp2_with fail
              refine (HC _ ((Below.refl _ _).alloc (Nat.le_refl _) _)).out.mono ?_
              rintro e w7 ⟨rfl, hc7, hf7, hg7⟩
              have hgx : w2.grownBy w7 (some (w1.heap.size + 1)) := grownBy_trans (grownBy_below hgw ((Below.refl _ _).alloc (Nat.le_refl _) _)) hg7
              have hbx : Below w.heap.size w w7 := ⟨hgx.os.trans hB2.os, hgx.tape.trans hB2.tape, hgx.output.trans hB2.output, Nat.le_trans hB2.size hgx.size, fun j hj => (hgx.block j (by have := hB2.size; omega) (by simp; omega)).trans (hB2.block j hj)⟩
              clear HC hg7 d0 d1 d2 d3 d4
              cases hb : accB fs (i : Int) pa 60 y k1 n1 p1 c1 kk with
              | true =>
                have hsz1 := accB_size hb
                have hc8 := hc7 hb
                have HX2 : Hid (T = accF fs (i : Int) pa 0 (t + 1) 60 (y - kk.size - 1) (Fo.drop (t + 1) ou)) := by show _ = _; rw [HU.out, hb, Bool.true_and]
                have hy2 : 0 ≤ y - (kk.size : Int) - 1 := by omega
                have hy3 : y - (kk.size : Int) - 1 ≤ 400 := by omega
                have e3 : y - ((kk.size : Int) + 1) = y - (kk.size : Int) - 1 := by omega
                rw [e3] at hc8
                clear hb hc7 HU e3
                generalize y - (kk.size : Int) - 1 = z at hc8 HX2 hy2 hy3
                go_wp2_with fail
                go_roundw
                case rel => exact ⟨t + 1, z, by omega, by go_num, hy2, hy3, HX2, hc8, hf7, hgx⟩
                case measure => simp [intOf]; omega
              | false =>
                have HX2 : Hid (T = false) := by show _ = _; rw [HU.out, hb, Bool.false_and]
                clear hb hc7 HU
                go_wp2_with fail
                go_ret
                exact ⟨ret_bool HX2.out.symm, hbx⟩
            · have hti : ¬ (t : Int) < (ou.len : Int) := by omega
              have HX2 : Hid (T = true) := by
                show _ = _
                rw [HX.out, Fo.drop_end (by omega)]; exact accF_nil _ _ _ _ _ _ _ (by omega) hy0
              clear HX hF2 hP2 y2 x0 x1 x2
              go_wp2_with fail
              go_ret
              exact ⟨ret_bool HX2.out.symm, hbw⟩
        · have HF : Hid (T = false) := by
            show _ = _
            rw [HE.out, decide_eq_false h3]; simp
          clear HE h1 hF hP hfr HT
          by_cases h4 : ou.len < 1
          · have hd4 : decide ((ou.len : Int) < 1) = true := decide_eq_true (by omega)
            go_wp2_with fail
            go_ret
            exact ⟨ret_bool HF.out.symm, hB1⟩
          · have hd4 : decide ((ou.len : Int) < 1) = false := decide_eq_false (by omega)
            have hd5 : decide (12 < (ou.len : Int)) = true := decide_eq_true (by omega)
            go_wp2_with fail
            go_ret
            exact ⟨ret_bool HF.out.symm, hB1⟩
      · have HF : Hid (T = false) := by
          show _ = _
          rw [HE.out, decide_eq_false h2]; simp
        clear HE h1 hF hP hfr HT
        by_cases h4 : pa < 0
        · have hd4 : decide (pa < 0) = true := decide_eq_true h4
          go_wp2_with fail
          go_ret
          exact ⟨ret_bool HF.out.symm, hB1⟩
        · have hd4 : decide (pa < 0) = false := decide_eq_false h4
          have hd5 : decide (12 < pa) = true := decide_eq_true (by omega)
          go_wp2_with fail
          go_ret
          exact ⟨ret_bool HF.out.symm, hB1⟩

end Go.Proofs.YtoedccgiahegnaaGreat

namespace Go.Proofs.YtoedccgiahegnaaGreat
open Go.RowKit
set_option linter.unusedVariables false

set_option maxRecDepth 100000 in
set_option maxHeartbeats 6400000 in
theorem iValidProgram (fs : List Fn) (ap : Option Addr) (capp : Nat) (w : World) (hP : Pat w 0 w.heap.size fs ap) (hsz : pgSize fs ≤ 1048576) (hcap : fs.length ≤ capp) (hcm : capp ≤ 1048576) :
    Calls Tryz.prog 95 #[.agg #[.slice ap fs.length capp]] w fun e w' => e = .returned (.bool (progB fs)) ∧ Below w.heap.size w w' := by
  have hl : fs.length ≤ 1048576 := by unfold pgSize at hsz; omega
  have B1 : ∀ o, Below w.heap.size w (w.alloc o) := fun o => (Below.refl _ _).alloc (Nat.le_refl _) o
  by_cases h16 : fs.length ≤ 16
  · have hd2 : ¬ (16 : Int) < (fs.length : Int) := by omega
    have hb0 := B1 (.cells #[.slice ap fs.length capp] 31)
    have c0 : (w.alloc (.cells #[.slice ap fs.length capp] 31)).cell? ⟨w.heap.size, 0, none⟩ = some (.slice ap fs.length capp) := by simp [go_sem]
    obtain ⟨w1, hw1⟩ : ∃ w1, w1 = w.alloc (.cells #[.slice ap fs.length capp] 31) := ⟨_, rfl⟩
    rw [← hw1] at hb0 c0
    have z1 : w1.heap.size = w.heap.size + 1 := by rw [hw1]; simp
    have hb1 : Below w1.heap.size w1 w1 := Below.refl _ _
    go_enter Tryz.func95, Tryz.ntmps95
    go_wp2_with fail
    rw [← hw1]
    clear hw1 B1
    go_loopw [11] (fun q wr => ∃ i : Nat, i ≤ fs.length ∧ q = .int .i64 i ∧ Hid (∀ t, t < i → fnB fs t = true) ∧ Below w1.heap.size w1 wr) (fun q _ => fs.length - (intOf q).toNat)
    case atStart => exact ⟨0, Nat.zero_le _, rfl, (fun t ht => by omega), hb1⟩
    case round =>
      obtain ⟨i, hi, rfl, HX, hw⟩ := hrel
      have hB : Below w.heap.size w wr := hb0.trans (hw.mono (by omega))
      have c1 := (hw.cell (p := ⟨w.heap.size, 0, none⟩) (by show w.heap.size < _; omega)).trans c0
      clear c0 hb1
      by_cases hlt : i < fs.length
      · have hii : (i : Int) < (fs.length : Int) := by omega
        have hic : (i : Int) ≤ (capp : Int) := by omega
        have hicn : i ≤ capp := by omega
        obtain ⟨bf, of, rfl, hbB, hall⟩ := ((hP.below hB).resolve_left (by intro e; rw [e] at hlt; simp at hlt))
        obtain ⟨hr, af, cf, f0, f1, f2, hFk⟩ := hall i hlt
        have HC := fun (W : World) (hW : Below wr.heap.size wr W) => Lib.hid (iFunc fs (some ⟨bf, of, none⟩) i capp (fs.getD i noFn) af cf W ((hP.below (hB.trans (hW.mono hB.size))).mono (Nat.le_refl _) (Nat.le_trans hB.size hW.size)) hlt rfl ((hFk.below (hW.mono hB.size)).mono (Nat.le_refl _) (Nat.le_trans hB.size hW.size)) hr hsz)
        clear hall hP hFk hr
        have hfk : Hid ((fs.getD i noFn).name.size = (fs.getD i noFn).name.size) := rfl
        cases hb : fnB fs i with
        | true =>
          have HX2 : Hid (∀ t, t < i + 1 → fnB fs t = true) := by
            intro t ht
            by_cases hti : t = i
            · rw [hti]; exact hb
            · exact HX.out t (by omega)
          rw [hb] at HC
          clear hb HX hfk
          generalize fs.getD i noFn = f at f0 f1 f2 HC
          go_wp2_with fail
          go_still_tail 9, (by kernel_rfl)
          change wpList _ _ _ _ _ wr.drew
          have hdw : Below wr.heap.size wr wr.drew := below_drew (Below.refl _ _)
          have HC2 := HC _ hdw
          clear HC
          generalize wr.drew = w2 at hdw HC2 ⊢
          clear f0 f1 f2 c1
          go_wp2_with fail
          refine (HC2.out).mono ?_; rintro e w' ⟨rfl, hb2⟩
          have hw2 := hw.trans ((hdw.trans (hb2.mono hdw.size)).mono hw.size)
          clear HC2
          go_wp2_with fail
          go_roundw
          case rel => exact ⟨i + 1, by omega, by go_num, HX2, hw2⟩
          case measure => simp [intOf]; omega
        | false =>
          have HF := Lib.hid (progB_f hlt hb)
          rw [hb] at HC
          clear hb HX hfk
          generalize fs.getD i noFn = f at f0 f1 f2 HC
          go_wp2_with fail
          go_still_tail 9, (by kernel_rfl)
          change wpList _ _ _ _ _ wr.drew
          have hdw : Below wr.heap.size wr wr.drew := below_drew (Below.refl _ _)
          have HC2 := HC _ hdw
          clear HC
          generalize wr.drew = w2 at hdw HC2 ⊢
          clear f0 f1 f2 c1
          go_wp2_with fail
          refine (HC2.out).mono ?_; rintro e w' ⟨rfl, hb2⟩
          have hw2 := hB.trans ((hdw.trans (hb2.mono hdw.size)).mono hB.size)
          clear HC2
          go_wp2_with fail
          go_ret
          exact ⟨ret_bool HF.out.symm, hw2⟩
      · have hii : ¬ (i : Int) < (fs.length : Int) := by omega
        have HF := Lib.hid (progB_t h16 (fun t ht => HX.out t (by omega)))
        clear HX hP c1
        go_wp2_with fail
        go_ret
        exact ⟨ret_bool HF.out.symm, hB⟩
  · have hd2 : (16 : Int) < (fs.length : Int) := by omega
    have HF := Lib.hid (progB_long h16)
    clear hP
    go_enter Tryz.func95, Tryz.ntmps95
    go_wp2_with fail
    go_ret
    exact ⟨ret_bool HF.out.symm, B1 _⟩

end Go.Proofs.YtoedccgiahegnaaGreat

namespace Go.Proofs.YtoedccgiahegnaaGreat
open Go.RowKit
set_option linter.unusedVariables false

/-- there is such a function in a valid program -/
def FnAt (fs : List Fn) (f : Int) : Prop := progB fs = true ∧ 0 ≤ f ∧ f < (fs.length : Int)
def FnRes (fs : List Fn) (f : Int) (w : World) (e : Ending) (w' : World) : Prop := Below w.heap.size w w' ∧
  ((¬ FnAt fs f ∧ ∃ c : Int, (c == 0) = false ∧ e = .returned (.tuple #[.agg #[.string ⟨#[]⟩, .int .i64 0, .slice none 0 0], .int .i64 c])) ∨
   (FnAt fs f ∧ ∃ af cf, e = .returned (.tuple #[.agg #[.string (fs.getD f.toNat noFn).name, .int .i64 (fs.getD f.toNat noFn).params, .slice af (fs.getD f.toNat noFn).outs.len cf], .int .i64 0])))

set_option maxRecDepth 100000 in
set_option maxHeartbeats 3200000 in
theorem iFunctionOf (fs : List Fn) (ap : Option Addr) (capp : Nat) (f : Int) (w : World) (hP : Pat w 0 w.heap.size fs ap) (hsz : pgSize fs ≤ 1048576) (hcap : fs.length ≤ capp) (hcm : capp ≤ 1048576) :
    Calls Tryz.prog 71 #[.agg #[.slice ap fs.length capp], .int .i64 f] w (FnRes fs f w) := by
  have hl : fs.length ≤ 1048576 := by unfold pgSize at hsz; omega
  obtain ⟨w0, hw0⟩ : ∃ w0, w0 = (w.alloc (.cells #[.slice ap fs.length capp] 31)).alloc (.cells #[.string ⟨#[]⟩, .int .i64 0, .slice none 0 0] 63) := ⟨_, rfl⟩
  have hb0 : Below w.heap.size w w0 := by rw [hw0]; exact ((Below.refl _ _).alloc (Nat.le_refl _) _).alloc (by simp) _
  have z0 : w0.heap.size = w.heap.size + 2 := by rw [hw0]; simp
  have c0 : w0.cell? ⟨w.heap.size, 0, none⟩ = some (.slice ap fs.length capp) := by rw [hw0]; simp [go_sem]
  have r0 : w0.cell? ⟨w.heap.size + 1, 0, none⟩ = some (.string ⟨#[]⟩) := by rw [hw0]; simp [go_sem]
  have r1 : w0.cell? ⟨w.heap.size + 1, 1, none⟩ = some (.int .i64 0) := by rw [hw0]; simp [go_sem]
  have r2 : w0.cell? ⟨w.heap.size + 1, 2, none⟩ = some (.slice none 0 0) := by rw [hw0]; simp [go_sem]
  have rz : ∀ o, w0.frozen? ⟨w.heap.size + 1, o, none⟩ = false := fun o => by rw [hw0]; simp [go_sem]
  have hP0 : Pat w0 0 w0.heap.size fs ap := (hP.below hb0).mono (Nat.le_refl _) hb0.size
  have HV := Lib.hid (iValidProgram fs ap capp w0 hP0 hsz hcap hcm)
  cases hpb : progB fs with
  | false =>
    have HN : Hid (¬ FnAt fs f) := fun h => by have := h.1; rw [hpb] at this; cases this
    rw [hpb] at HV
    clear hpb hP hP0
    go_enter Tryz.func71, Tryz.ntmps71
    go_wp2_with fail
    rw [← hw0]
    clear hw0
    refine (HV.out).mono ?_; rintro e w1 ⟨rfl, hb1⟩
    have hB1 := hb0.trans (hb1.mono (by omega))
    have k0 := (hb1.cell (p := ⟨w.heap.size + 1, 0, none⟩) (by show w.heap.size + 1 < _; omega)).trans r0
    have k1 := (hb1.cell (p := ⟨w.heap.size + 1, 1, none⟩) (by show w.heap.size + 1 < _; omega)).trans r1
    have k2 := (hb1.cell (p := ⟨w.heap.size + 1, 2, none⟩) (by show w.heap.size + 1 < _; omega)).trans r2
    have kz0 := (hb1.frozen (p := ⟨w.heap.size + 1, 0, none⟩) (by show w.heap.size + 1 < _; omega)).trans (rz 0)
    have kz1 := (hb1.frozen (p := ⟨w.heap.size + 1, 1, none⟩) (by show w.heap.size + 1 < _; omega)).trans (rz 1)
    have kz2 := (hb1.frozen (p := ⟨w.heap.size + 1, 2, none⟩) (by show w.heap.size + 1 < _; omega)).trans (rz 2)
    clear c0 r0 r1 r2 rz HV hb1
    go_wp2_with fail
    refine bodyPost_ret (v := .tuple #[.agg #[.string ⟨#[]⟩, .int .i64 0, .slice none 0 0], .int .i64 1]) (by simp [results, Tryz.results71, go_sem, k0, k1, k2]) rfl ⟨?_, .inl ⟨HN.out, 1, rfl, rfl⟩⟩
    exact ((hB1.setCell (p := ⟨w.heap.size + 1, 0, none⟩) (by show w.heap.size ≤ w.heap.size + 1; omega) _).setCell (p := ⟨w.heap.size + 1, 1, none⟩) (by show w.heap.size ≤ w.heap.size + 1; omega) _).setCell (p := ⟨w.heap.size + 1, 2, none⟩) (by show w.heap.size ≤ w.heap.size + 1; omega) _
  | true =>
    rw [hpb] at HV
    by_cases hf : 0 ≤ f ∧ f < (fs.length : Int)
    · have HN : Hid (FnAt fs f) := ⟨hpb, hf⟩
      have HX := fun W => Lib.hid (iIndex f (fs.length : Int) W)
      rw [decide_eq_true hf] at HX
      have hf2 := hf.2
      obtain ⟨j, rfl⟩ := Int.eq_ofNat_of_zero_le hf.1
      have hj : j < fs.length := by omega
      clear hpb hP hf
      go_enter Tryz.func71, Tryz.ntmps71
      go_wp2_with fail
      rw [← hw0]
      clear hw0
      refine (HV.out).mono ?_; rintro e w1 ⟨rfl, hb1⟩
      have hB1 := hb0.trans (hb1.mono (by omega))
      have k := (hb1.cell (p := ⟨w.heap.size, 0, none⟩) (by show w.heap.size < _; omega)).trans c0
      have k0 := (hb1.cell (p := ⟨w.heap.size + 1, 0, none⟩) (by show w.heap.size + 1 < _; omega)).trans r0
      have k1 := (hb1.cell (p := ⟨w.heap.size + 1, 1, none⟩) (by show w.heap.size + 1 < _; omega)).trans r1
      have k2 := (hb1.cell (p := ⟨w.heap.size + 1, 2, none⟩) (by show w.heap.size + 1 < _; omega)).trans r2
      have kz0 := (hb1.frozen (p := ⟨w.heap.size + 1, 0, none⟩) (by show w.heap.size + 1 < _; omega)).trans (rz 0)
      have kz1 := (hb1.frozen (p := ⟨w.heap.size + 1, 1, none⟩) (by show w.heap.size + 1 < _; omega)).trans (rz 1)
      have kz2 := (hb1.frozen (p := ⟨w.heap.size + 1, 2, none⟩) (by show w.heap.size + 1 < _; omega)).trans (rz 2)
      obtain ⟨bf, of, rfl, hbB, hall⟩ := (((hP0.below hb1).mono (Nat.le_refl _) hb1.size).resolve_left (by intro e; rw [e] at hj; simp at hj))
      obtain ⟨hrr, af, cf, f0, f1, f2, _⟩ := hall j hj
      have HRES : Hid (FnAt fs (j : Int) ∧ Ending.returned (.tuple #[.agg #[.string (fs.getD j noFn).name, .int .i64 (fs.getD j noFn).params, .slice af (fs.getD j noFn).outs.len cf], .int .i64 0]) = .returned (.tuple #[.agg #[.string (fs.getD (j : Int).toNat noFn).name, .int .i64 (fs.getD (j : Int).toNat noFn).params, .slice af (fs.getD (j : Int).toNat noFn).outs.len cf], .int .i64 0])) := ⟨HN.out, rfl⟩
      clear hall hrr c0 r0 r1 r2 rz HV hb1 hP0
      generalize (fs.getD j noFn).name = nm at *
      generalize (fs.getD j noFn).outs.len = mo at *
      generalize (fs.getD j noFn).params = pa at *
      go_wp2_with fail
      refine (HX _).out.mono ?_; rintro e w2 ⟨rfl, rfl⟩
      go_wp2_with fail
      refine bodyPost_ret (v := .tuple #[.agg #[.string nm, .int .i64 pa, .slice af mo cf], .int .i64 0]) (by simp [results, Tryz.results71, go_sem, k0, k1, k2]) rfl ⟨?_, .inr ⟨HRES.out.1, af, cf, HRES.out.2⟩⟩
      exact ((hB1.setCell (p := ⟨w.heap.size + 1, 0, none⟩) (by show w.heap.size ≤ w.heap.size + 1; omega) _).setCell (p := ⟨w.heap.size + 1, 1, none⟩) (by show w.heap.size ≤ w.heap.size + 1; omega) _).setCell (p := ⟨w.heap.size + 1, 2, none⟩) (by show w.heap.size ≤ w.heap.size + 1; omega) _
    · have HN : Hid (¬ FnAt fs f) := fun h => hf h.2
      have HX := fun W => Lib.hid (iIndex f (fs.length : Int) W)
      rw [decide_eq_false hf] at HX
      clear hpb hP hf hP0
      go_enter Tryz.func71, Tryz.ntmps71
      go_wp2_with fail
      rw [← hw0]
      clear hw0
      refine (HV.out).mono ?_; rintro e w1 ⟨rfl, hb1⟩
      have hB1 := hb0.trans (hb1.mono (by omega))
      have k := (hb1.cell (p := ⟨w.heap.size, 0, none⟩) (by show w.heap.size < _; omega)).trans c0
      have k0 := (hb1.cell (p := ⟨w.heap.size + 1, 0, none⟩) (by show w.heap.size + 1 < _; omega)).trans r0
      have k1 := (hb1.cell (p := ⟨w.heap.size + 1, 1, none⟩) (by show w.heap.size + 1 < _; omega)).trans r1
      have k2 := (hb1.cell (p := ⟨w.heap.size + 1, 2, none⟩) (by show w.heap.size + 1 < _; omega)).trans r2
      have kz0 := (hb1.frozen (p := ⟨w.heap.size + 1, 0, none⟩) (by show w.heap.size + 1 < _; omega)).trans (rz 0)
      have kz1 := (hb1.frozen (p := ⟨w.heap.size + 1, 1, none⟩) (by show w.heap.size + 1 < _; omega)).trans (rz 1)
      have kz2 := (hb1.frozen (p := ⟨w.heap.size + 1, 2, none⟩) (by show w.heap.size + 1 < _; omega)).trans (rz 2)
      clear c0 r0 r1 r2 rz HV hb1
      go_wp2_with fail
      refine (HX _).out.mono ?_; rintro e w2 ⟨rfl, rfl⟩
      go_wp2_with fail
      refine bodyPost_ret (v := .tuple #[.agg #[.string ⟨#[]⟩, .int .i64 0, .slice none 0 0], .int .i64 2]) (by simp [results, Tryz.results71, go_sem, k0, k1, k2]) rfl ⟨?_, .inl ⟨HN.out, 2, rfl, rfl⟩⟩
      exact ((hB1.setCell (p := ⟨w.heap.size + 1, 0, none⟩) (by show w.heap.size ≤ w.heap.size + 1; omega) _).setCell (p := ⟨w.heap.size + 1, 1, none⟩) (by show w.heap.size ≤ w.heap.size + 1; omega) _).setCell (p := ⟨w.heap.size + 1, 2, none⟩) (by show w.heap.size ≤ w.heap.size + 1; omega) _

def rndB (fs : List Fn) (f : Int) : Bool := decide (0 ≤ f ∧ f < (fs.length : Int)) && repB fs f
set_option maxRecDepth 100000 in
set_option maxHeartbeats 3200000 in
theorem sRound (fs : List Fn) (bp op : Nat) (ap : Option Addr) (capp : Nat) (f : Int) (w : World)
    (hp : w.cell? ⟨bp, op, none⟩ = some (.slice ap fs.length capp)) (hP : Pat w 0 w.heap.size fs ap) (hsz : pgSize fs ≤ 1048576) :
    Calls Tryz.prog 85 #[.pointer (some ⟨bp, op, none⟩), .int .i64 f] w (Quiet (.bool (rndB fs f)) w) := by
  have hl : fs.length ≤ 1048576 := by unfold pgSize at hsz; omega
  by_cases hf : 0 ≤ f ∧ f < (fs.length : Int)
  · have HB : Hid (rndB fs f = repB fs f) := by show _ = _; unfold rndB; rw [decide_eq_true hf, Bool.true_and]
    obtain ⟨j, rfl⟩ := Int.eq_ofNat_of_zero_le hf.1
    have hj : j < fs.length := by omega
    have hf2 := hf.2
    obtain ⟨bf, of, rfl, hbB, hall⟩ := (hP.resolve_left (by intro e; rw [e] at hj; simp at hj))
    obtain ⟨hr, af, cf, f0, f1, f2, _⟩ := hall j hj
    have hlf := hr.2.2
    unfold maxLen at hlf
    have hlf2 : (fs.getD j noFn).outs.len ≤ 9223372036854775807 := by omega
    have HB1 : Hid (repB fs (j : Int) = (decide (1 ≤ (fs.getD j noFn).params) && decide (((fs.getD j noFn).outs.len : Int) = (fs.getD j noFn).params))) := rfl
    clear hall hP hr hlf hf
    generalize (fs.getD j noFn).name = nm at f0
    generalize (fs.getD j noFn).outs.len = mo at HB1 f2 hlf2
    generalize (fs.getD j noFn).params = pa at HB1 f1
    have HI := fun W => Lib.hid (inT (j : Int) 0 ((fs.length : Int) - 1) (by omega) (by omega) W)
    by_cases h2 : 1 ≤ pa
    · have d1 : decide (1 ≤ pa) = true := decide_eq_true h2
      have HB2 : Hid (rndB fs (j : Int) = decide ((mo : Int) = pa)) := by show _ = _; rw [HB.out, HB1.out, d1, Bool.true_and]
      clear HB HB1
      go_enter Tryz.func85, Tryz.ntmps85
      go_wp2_with fail
      refine (HI _).out.mono ?_; rintro e w' ⟨rfl, rfl⟩
      go_wp2_with fail
      go_quiet (fail)
      go_wp2_with fail
      go_ret
      exact ⟨ret_bool (by rw [HB2.out]; rfl), _, rfl⟩
    · have d1 : decide (1 ≤ pa) = false := decide_eq_false h2
      have HB2 : Hid (rndB fs (j : Int) = false) := by show _ = _; rw [HB.out, HB1.out, d1, Bool.false_and]
      clear HB HB1
      go_enter Tryz.func85, Tryz.ntmps85
      go_wp2_with fail
      refine (HI _).out.mono ?_; rintro e w' ⟨rfl, rfl⟩
      go_wp2_with fail
      go_quiet (fail)
      go_wp2_with fail
      go_ret
      exact ⟨ret_bool HB2.out.symm, _, rfl⟩
  · have HB : Hid (rndB fs f = false) := by show _ = _; unfold rndB; rw [decide_eq_false hf, Bool.false_and]
    have HI := fun W => Lib.hid (inF f 0 ((fs.length : Int) - 1) (by omega) W)
    clear hf hP
    go_enter Tryz.func85, Tryz.ntmps85
    go_wp2_with fail
    refine (HI _).out.mono ?_; rintro e w' ⟨rfl, rfl⟩
    go_wp2_with fail
    go_ret
    exact ⟨ret_bool HB.out.symm, 0, rfl⟩

/-- what is answered for a round -/
def vrdB (fs : List Fn) (f : Int) : Bool := progB fs && rndB fs f
theorem vrdB_no {fs : List Fn} {f : Int} (h : ¬ FnAt fs f) : vrdB fs f = false := by
  unfold vrdB rndB
  cases hp : progB fs with
  | false => rfl
  | true => rw [decide_eq_false (fun h2 => h ⟨hp, h2⟩)]; rfl
theorem vrdB_yes {fs : List Fn} {f : Int} (h : FnAt fs f) : vrdB fs f = repB fs f := by
  unfold vrdB rndB
  rw [h.1, decide_eq_true h.2, Bool.true_and, Bool.true_and]

end Go.Proofs.YtoedccgiahegnaaGreat
