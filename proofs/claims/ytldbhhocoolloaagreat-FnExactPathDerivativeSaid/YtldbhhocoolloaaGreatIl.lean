/- The program: which functions are valid. -/
import Derived.Test.YtldbhhocoolloaaGreatIj
import Derived.Test.YtldbhhocoolloaaGreatIk
namespace Go.Proofs.YtldbhhocoolloaaGreat
open Go.RowKit
set_option linter.unusedVariables false

theorem idx_fresh {fs : List Fn} {s : ByteArray} {i : Nat} {r : Int} (h : IdxIs fs s i r) (hi : i ≤ fs.length) : (0 ≤ r ∧ freshB fs s i = false) ∨ (r < 0 ∧ freshB fs s i = true) := by
  rcases h with ⟨rfl, h⟩ | ⟨j, hj, rfl, he, _⟩
  · exact .inr ⟨by omega, freshB_t h⟩
  · exact .inl ⟨by omega, freshB_f hj (by omega) he⟩

set_option maxRecDepth 100000 in
set_option maxHeartbeats 6400000 in
theorem iFunc (fs : List Fn) (ap : Option Addr) (i capp : Nat) (f : Fn) (a : Option Addr) (cap : Nat) (w : World) (hP : Pat w 0 w.heap.size fs ap) (hi : i < fs.length) (hfi : fs.getD i noFn = f) (hF : Fat w 0 w.heap.size f.outs a) (hr : RF f) (hsz : pgSize fs ≤ 1048576) :
    Calls Tryz.prog 115 #[.slice ap i capp, .agg #[.string f.name, .int .i64 f.params, .slice a f.outs.len cap]] w fun e w' => e = .returned (.bool (fnB fs i)) ∧ Below w.heap.size w w' := by
  have hl : fs.length ≤ 1048576 := by unfold pgSize at hsz; omega
  have HE := Lib.hid (fnB_eq fs i)
  obtain ⟨hns, hos⟩ := fnsSize_name hi
  have HT : Hid (fnTail fs i = accF fs (i : Int) (fs.getD i noFn).params 0 0 60 400 (fs.getD i noFn).outs) := rfl
  rw [hfi] at HE hns hos HT
  clear hfi
  obtain ⟨nm, pa, ou⟩ := f
  dsimp only at HE hns hos HT hF ⊢
  have hpr := hr.2.1
  dsimp only at hpr
  have hpo : ou.len ≤ 1048576 := by have := Fo.len_le ou; omega
  have hns2 : nm.size ≤ 9223372036854775806 := by omega
  have hii : (i : Int) ≤ 1048576 := by omega
  generalize fnB fs i = T at HE
  have HNm := fun W => Lib.hid (iName nm W hns2)
  have B1 : ∀ o, Below w.heap.size w (w.alloc o) := fun o => (Below.refl _ _).alloc (Nat.le_refl _) o
  have HIx := Lib.hid (iIndexOf fs ap i capp nm (w.alloc (.cells #[.string nm, .int .i64 pa, .slice a ou.len cap] 69)) ((hP.below (B1 _)).mono (Nat.le_refl _) (by simp)) (by omega) (by omega))
  have hb0 := B1 (.cells #[.string nm, .int .i64 pa, .slice a ou.len cap] 69)
  clear hns hns2 hr
  cases h1 : isNm nm with
  | false =>
    have HF : Hid (T = false) := by
      show _ = _
      rw [HE.out, h1]; rfl
    rw [h1] at HNm
    clear HE h1 hF hP HIx B1
    go_enter Tryz.func115, Tryz.ntmps115
    go_wp2_with fail
    refine (HNm _).out.mono ?_; rintro e w' ⟨rfl, rfl⟩
    go_wp2_with fail
    go_ret
    exact ⟨ret_bool HF.out.symm, hb0⟩
  | true =>
    rw [h1] at HNm
    go_enter Tryz.func115, Tryz.ntmps115
    go_wp2_with fail
    refine (HNm _).out.mono ?_; rintro e w' ⟨rfl, rfl⟩
    go_wp2_with fail
    refine (HIx.out).mono ?_; rintro e w1 ⟨r, rfl, hI, hb1⟩
    obtain ⟨hc1, hf1⟩ := bcell hb1
    have hz1 := hb1.size
    simp at hz1
    have hB1 := hb0.trans (hb1.mono (by simp))
    have x0 : w1.cell? ⟨w.heap.size, 0, none⟩ = some (.string nm) := by rw [hc1 _ _ (by simp)]; simp [go_sem]
    have x1 : w1.cell? ⟨w.heap.size, 1, none⟩ = some (.int .i64 pa) := by rw [hc1 _ _ (by simp)]; simp [go_sem]
    have x2 : w1.cell? ⟨w.heap.size, 2, none⟩ = some (.slice a ou.len cap) := by rw [hc1 _ _ (by simp)]; simp [go_sem]
    clear hc1 hf1 HIx B1
    rcases idx_fresh hI (by omega) with ⟨hr0, hfr⟩ | ⟨hr0, hfr⟩
    · have HF : Hid (T = false) := by
        show _ = _
        rw [HE.out, hfr]; simp
      have hd : decide (0 ≤ r) = true := decide_eq_true hr0
      clear HE h1 hF hP hI hfr
      go_wp2_with fail
      go_ret
      exact ⟨ret_bool HF.out.symm, hB1⟩
    · have hd : decide (0 ≤ r) = false := decide_eq_false (by omega)
      clear hI
      by_cases h2 : 0 ≤ pa ∧ pa ≤ 12
      · have hd2 : decide (pa < 0) = false := decide_eq_false (by omega)
        have hd3 : decide (12 < pa) = false := decide_eq_false (by omega)
        by_cases h3 : 1 ≤ ou.len ∧ ou.len ≤ 12
        · have hd4 : decide ((ou.len : Int) < 1) = false := decide_eq_false (by omega)
          have hd5 : decide (12 < (ou.len : Int)) = false := decide_eq_false (by omega)
          have HE2 : Hid (T = accF fs (i : Int) pa 0 0 60 400 (Fo.drop 0 ou)) := by
            show _ = _
            rw [HE.out, h1, hfr, decide_eq_true h2, decide_eq_true h3, Bool.true_and, Bool.true_and, Bool.true_and, Bool.true_and, HT.out, Fo.drop_zero]
          clear HE h1 hfr HT
          obtain ⟨w2, hw2⟩ : ∃ w2, w2 = (w1.alloc (.cells #[.slice ap i capp, .int .i64 pa] 218)).alloc (.cells #[.int .i64 400] 2) := ⟨_, rfl⟩
          have z2 : w2.heap.size = w1.heap.size + 2 := by rw [hw2]; simp
          have q0 : w2.cell? ⟨w1.heap.size + 1, 0, none⟩ = some (.int .i64 400) := by rw [hw2]; simp [go_sem]
          have qz : w2.frozen? ⟨w1.heap.size + 1, 0, none⟩ = false := by rw [hw2]; simp [go_sem]
          have s0 : w2.cell? ⟨w1.heap.size, 0, none⟩ = some (.slice ap i capp) := by rw [hw2]; simp [go_sem]
          have s1 : w2.cell? ⟨w1.heap.size, 1, none⟩ = some (.int .i64 pa) := by rw [hw2]; simp [go_sem]
          have hb2 : Below w1.heap.size w1 w2 := by rw [hw2]; exact ((Below.refl _ _).alloc (Nat.le_refl _) _).alloc (by simp) _
          have y2 := (hb2.cell (p := ⟨w.heap.size, 2, none⟩) (by show w.heap.size < _; omega)).trans x2
          have hB2 : Below w.heap.size w w2 := hB1.trans (hb2.mono (by omega))
          have hP2 : Pat w2 0 (w1.heap.size + 1) fs ap := (hP.below hB2).mono (Nat.le_refl _) (by omega)
          have hF2 : Fat w2 0 (w1.heap.size + 1) ou a := (hF.below hB2).mono (Nat.le_refl _) (by omega)
          clear hP hF
          have lw0 : w.heap.size < w1.heap.size := by omega
          have hg0 : w2.grownBy w2 (some (w1.heap.size + 1)) := World.grownBy.refl _ _
          go_wp2_with fail
          rw [← hw2]
          clear hw2 hb2
          go_loopw [48] (fun q wr => ∃ (t : Nat) (y : Int), t ≤ ou.len ∧ q = .int .i64 t ∧ 0 ≤ y ∧ y ≤ 400 ∧ Hid (T = accF fs (i : Int) pa 0 t 60 y (Fo.drop t ou)) ∧
              wr.cell? ⟨w1.heap.size + 1, 0, none⟩ = some (.int .i64 y) ∧ wr.frozen? ⟨w1.heap.size + 1, 0, none⟩ = false ∧ w2.grownBy wr (some (w1.heap.size + 1))) (fun q _ => ou.len - (intOf q).toNat)
          case atStart => exact ⟨0, 400, Nat.zero_le _, rfl, by omega, by omega, HE2, q0, qz, hg0⟩
          case round =>
            obtain ⟨t, y, ht, rfl, hy0, hy1, HX, hq, hz, hgw⟩ := hrel
            clear HE2 hg0 q0 qz
            have hws := hgw.size
            have t0 := hgw.cell s0 (by simp)
            have t1 := hgw.cell s1 (by simp)
            have hbw : Below w.heap.size w wr := ⟨hgw.os.trans hB2.os, hgw.tape.trans hB2.tape, hgw.output.trans hB2.output, Nat.le_trans hB2.size hws, fun j hj => (hgw.block j (by have := hB2.size; omega) (by simp; omega)).trans (hB2.block j hj)⟩
            clear s0 s1
            by_cases hlt : t < ou.len
            · have hti : (t : Int) < (ou.len : Int) := by omega
              have hFr : Fat wr 0 (w1.heap.size + 1) ou a := Fat.agree (fun j _ hj => hgw.block j (by omega) (by simp; omega)) hF2
              have hPr : Pat wr 0 (w1.heap.size + 1) fs ap := hP2.agree (fun j _ hj => hgw.block j (by omega) (by simp; omega))
              obtain ⟨b1, o1, rfl, hbB⟩ := hFr.blk (by omega)
              obtain ⟨k1, n1, p1, c1, kk, a2, cap2, hdr, hr, hkl, d0, d1, d2, d3, d4, hk'⟩ := hFr.node hlt
              have hlt' := Fo.kid_lt hdr
              have HC := fun (W : World) (hW : Below wr.heap.size wr W) => Lib.hid (iAccepts_all fs ap i capp (by omega) (by omega) (kk.size + 1) kk (by omega) k1 n1 p1 c1 a2 cap2 pa 60 y (w1.heap.size + 1) W (hPr.agree (fun j _ hj => hW.block j (by omega))) (Fat.agree (fun j _ hj => hW.block j (by omega)) hk') hr (by omega)
                (by have := hW.size; omega) ((hW.cell (p := ⟨w1.heap.size + 1, 0, none⟩) (by show w1.heap.size + 1 < _; omega)).trans hq) ((hW.frozen (p := ⟨w1.heap.size + 1, 0, none⟩) (by show w1.heap.size + 1 < _; omega)).trans hz) hy0 (by omega) (by omega) (by omega) ⟨by omega, by omega⟩)
              have HU : Hid (T = (accB fs (i : Int) pa 60 y k1 n1 p1 c1 kk && accF fs (i : Int) pa 0 (t + 1) 60 (y - kk.size - 1) (Fo.drop (t + 1) ou))) := by
                show _ = _
                rw [HX.out, hdr, accF_cons]
                show (accB fs (i : Int) (pa + 0) 60 y k1 n1 p1 c1 kk && _) = _
                rw [Int.add_zero]
              have lt1 : w1.heap.size < wr.heap.size := by omega
              clear hFr hPr hk' hF2 hP2 hdr hlt' hkl HX y2 x0 x1 x2
              go_wp2_with fail
              refine (HC _ ((Below.refl _ _).alloc (Nat.le_refl _) _)).out.mono ?_
              rintro e w7 ⟨rfl, hc7, hf7, hg7⟩
              have hgx : w2.grownBy w7 (some (w1.heap.size + 1)) := grownBy_trans (grownBy_below hgw ((Below.refl _ _).alloc (Nat.le_refl _) _)) hg7
              have hbx : Below w.heap.size w w7 := ⟨hgx.os.trans hB2.os, hgx.tape.trans hB2.tape, hgx.output.trans hB2.output, Nat.le_trans hB2.size hgx.size, fun j hj => (hgx.block j (by have := hB2.size; omega) (by simp; omega)).trans (hB2.block j hj)⟩
              clear HC hg7 d0 d1 d2 d3 d4
              cases hb : accB fs (i : Int) pa 60 y k1 n1 p1 c1 kk with
              | true =>
                have hsz1 := accB_size hb
                have hc8 := hc7 hb
                have HX2 : Hid (T = accF fs (i : Int) pa 0 (t + 1) 60 (y - kk.size - 1) (Fo.drop (t + 1) ou)) := by show _ = _; rw [HU.out, hb, Bool.true_and]
                have hy2 : 0 ≤ y - (kk.size : Int) - 1 := by omega
                have hy3 : y - (kk.size : Int) - 1 ≤ 400 := by omega
                have e3 : y - ((kk.size : Int) + 1) = y - (kk.size : Int) - 1 := by omega
                rw [e3] at hc8
                clear hb hc7 HU e3
                generalize y - (kk.size : Int) - 1 = z at hc8 HX2 hy2 hy3
                go_wp2_with fail
                go_roundw
                case rel => exact ⟨t + 1, z, by omega, by go_num, hy2, hy3, HX2, hc8, hf7, hgx⟩
                case measure => simp [intOf]; omega
              | false =>
                have HX2 : Hid (T = false) := by show _ = _; rw [HU.out, hb, Bool.false_and]
                clear hb hc7 HU
                go_wp2_with fail
                go_ret
                exact ⟨ret_bool HX2.out.symm, hbx⟩
            · have hti : ¬ (t : Int) < (ou.len : Int) := by omega
              have HX2 : Hid (T = true) := by
                show _ = _
                rw [HX.out, Fo.drop_end (by omega)]; exact accF_nil _ _ _ _ _ _ _ (by omega) hy0
              clear HX hF2 hP2 y2 x0 x1 x2
              go_wp2_with fail
              go_ret
              exact ⟨ret_bool HX2.out.symm, hbw⟩
        · have HF : Hid (T = false) := by
            show _ = _
            rw [HE.out, decide_eq_false h3]; simp
          clear HE h1 hF hP hfr HT
          by_cases h4 : ou.len < 1
          · have hd4 : decide ((ou.len : Int) < 1) = true := decide_eq_true (by omega)
            go_wp2_with fail
            go_ret
            exact ⟨ret_bool HF.out.symm, hB1⟩
          · have hd4 : decide ((ou.len : Int) < 1) = false := decide_eq_false (by omega)
            have hd5 : decide (12 < (ou.len : Int)) = true := decide_eq_true (by omega)
            go_wp2_with fail
            go_ret
            exact ⟨ret_bool HF.out.symm, hB1⟩
      · have HF : Hid (T = false) := by
          show _ = _
          rw [HE.out, decide_eq_false h2]; simp
        clear HE h1 hF hP hfr HT
        by_cases h4 : pa < 0
        · have hd4 : decide (pa < 0) = true := decide_eq_true h4
          go_wp2_with fail
          go_ret
          exact ⟨ret_bool HF.out.symm, hB1⟩
        · have hd4 : decide (pa < 0) = false := decide_eq_false h4
          have hd5 : decide (12 < pa) = true := decide_eq_true (by omega)
          go_wp2_with fail
          go_ret
          exact ⟨ret_bool HF.out.symm, hB1⟩

end Go.Proofs.YtldbhhocoolloaaGreat
