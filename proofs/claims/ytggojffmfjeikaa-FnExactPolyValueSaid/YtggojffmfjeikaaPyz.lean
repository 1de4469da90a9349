/- The value of a polynomial, by the program. -/
import Derived.Test.YtggojffmfjeikaaPyx
namespace Go.Proofs.Ytggojffmfjeikaa
open Go.RowKit
set_option linter.unusedVariables false

set_option maxRecDepth 100000 in
set_option maxHeartbeats 6400000 in
theorem iPolyValue (q : Py) (a : Option Addr) (c : Nat) (al : Option Addr) (cl : Nat) (l : List Int) (w : World) (hP : TmAt w 0 w.heap.size q.terms a) (hA : At w al l) (hR : Rng l) (hl : l.length ≤ 1048576) (hs : tmSize q.terms ≤ 1048576) :
    Calls Try.prog 20 #[pyv q a c, .slice al l.length cl] w fun e w' => e = .returned (.tuple #[.int .i64 (RPolyValue q l), .int .i64 (CPolyValue q l)]) ∧ Below w.heap.size w w' := by
  unfold pyv
  obtain ⟨w0, hw0⟩ : ∃ w0, w0 = w.alloc (.cells #[.int .i64 q.vars, .slice a q.terms.length c] 29) := ⟨_, rfl⟩
  have HB : Below w.heap.size w w0 := by rw [hw0]; exact (Below.refl _ _).alloc (Nat.le_refl _) _
  have z0 := Lib.hid (show w.heap.size < w0.heap.size by rw [hw0]; simp)
  have p0 : w0.cell? ⟨w.heap.size, 0, none⟩ = some (.int .i64 q.vars) := by rw [hw0]; simp [go_sem]
  have p1 : w0.cell? ⟨w.heap.size, 1, none⟩ = some (.slice a q.terms.length c) := by rw [hw0]; simp [go_sem]
  have HC := iValidPoly q a c w0 (hP.next HB) hs
  unfold pyv at HC
  have HC := Lib.hid HC
  have HT := Lib.hid (show ∀ W, Below w0.heap.size w0 W → TmAt W 0 W.heap.size q.terms a ∧ At W al l from fun W hW => ⟨(hP.next HB).next hW, (hA.below HB (Nat.le_refl _)).below hW (Nat.le_refl _)⟩)
  clear hP hA hs
  cases hb : polyB q with
  | false =>
    obtain ⟨r1, r2⟩ := valR_bad (l := l) hb
    have r1 := Lib.hid r1
    have r2 := Lib.hid r2
    rw [hb] at HC
    clear hb
    go_enter Try.func20, Try.ntmps20
    go_wp2_with fail
    rw [← hw0]
    clear hw0
    refine HC.out.mono ?_; rintro e w1 ⟨rfl, b⟩
    have HB2 := HB.trans (b.mono HB.size)
    clear b
    go_wp2_with fail
    go_ret2
    exact ⟨ret_two r1.out.symm r2.out.symm, HB2⟩
  | true =>
    rw [hb] at HC
    have HV := Lib.hid (polyB_ok hb)
    cases hk : areB l q.vars with
    | false =>
      obtain ⟨r1, r2⟩ := valR_no hb hk
      have r1 := Lib.hid r1
      have r2 := Lib.hid r2
      have HN := Lib.hid (fun (W : World) (hW : Below w0.heap.size w0 W) => hk ▸ iAre al cl l q.vars W (HT.out W hW).2 hl)
      clear hb hk
      go_enter Try.func20, Try.ntmps20
      go_wp2_with fail
      rw [← hw0]
      clear hw0
      refine HC.out.mono ?_; rintro e w1 ⟨rfl, b⟩
      have HB2 := HB.trans (b.mono HB.size)
      replace p0 := (b.cell (p := ⟨w.heap.size, 0, none⟩) z0.out).trans p0
      have HN2 := Lib.hid (HN.out w1 b)
      clear b p1 HN
      go_wp2_with fail
      refine HN2.out.mono ?_; rintro e w2 ⟨rfl, rfl⟩
      go_wp2_with fail
      go_ret2
      exact ⟨ret_two r1.out.symm r2.out.symm, HB2⟩
    | true =>
      obtain ⟨r1, r2⟩ := valR_ok hb hk
      have r1 := Lib.hid r1
      have r2 := Lib.hid r2
      have hv0 : (l.length : Int) = q.vars := by
        have hk2 := hk
        unfold areB at hk2
        rw [Bool.and_eq_true] at hk2
        exact of_decide_eq_true hk2.1
      have hv := Lib.hid hv0
      clear hv0
      have HN := Lib.hid (fun (W : World) (hW : Below w0.heap.size w0 W) => hk ▸ iAre al cl l q.vars W (HT.out W hW).2 hl)
      have hlen : q.terms.length ≤ 120 := HV.out.size
      have H0 : Hid (valA l 0 q.terms = valA l 0 (q.terms.drop 0)) := rfl
      clear hb hk
      go_enter Try.func20, Try.ntmps20
      go_wp2_with fail
      rw [← hw0]
      clear hw0
      refine HC.out.mono ?_; rintro e w1 ⟨rfl, b⟩
      have HB2 := HB.trans (b.mono HB.size)
      have z1 := Lib.hid (Nat.lt_of_lt_of_le z0.out b.size)
      replace p0 := (b.cell (p := ⟨w.heap.size, 0, none⟩) z0.out).trans p0
      replace p1 := (b.cell (p := ⟨w.heap.size, 1, none⟩) z0.out).trans p1
      have HN2 := Lib.hid (HN.out w1 b)
      have HT1 := Lib.hid (show ∀ W, Below w1.heap.size w1 W → TmAt W 0 W.heap.size q.terms a ∧ At W al l from fun W hW => HT.out W (b.trans (hW.mono b.size)))
      clear b HN HC HT
      go_wp2_with fail
      refine HN2.out.mono ?_; rintro e w2 ⟨rfl, rfl⟩
      clear HN2
      go_wp2_with fail
      go_loopw [6, 23] (fun s i wr => ∃ (k : Nat) (y : Int), k ≤ q.terms.length ∧ i = .int .i64 k ∧ s = .int .i64 y ∧ (0 ≤ y ∧ y < 1000003) ∧ Hid (valA l 0 q.terms = valA l y (q.terms.drop k)) ∧ Below w1.heap.size w1 wr) (fun _ i _ => q.terms.length - (intOf i).toNat)
      case atStart => exact ⟨0, 0, Nat.zero_le _, rfl, rfl, by omega, H0, Below.refl _ _⟩
      case round =>
        obtain ⟨k, y, hk, rfl, rfl, hy, HX, hw⟩ := hrel
        clear H0 p0 p1
        by_cases hlt : k < q.terms.length
        · obtain ⟨hP, hA⟩ := HT1.out wr hw
          obtain ⟨bt, off, rfl⟩ : ∃ bt off, a = some ⟨bt, off, none⟩ := by
            rcases hP with e | ⟨bt, off, e, _⟩
            · rw [e] at hlt; simp at hlt
            · exact ⟨bt, off, e⟩
          have hi : (k : Int) < (q.terms.length : Int) := by omega
          obtain ⟨a1, c1, hT, hRt⟩ := hP.term hlt
          obtain ⟨f0, f1, hE⟩ := hT
          have HXd := Lib.hid (HX.out.trans (valA_drop hlt))
          have hln := HV.out.len k hlt
          have hel : (q.terms.getD k noTm).exps.length = l.length := by have := hv.out; omega
          have hcf := HV.out.coef k hlt
          have HD := Lib.hid (degB_all (HV.out.deg k hlt))
          clear HX hP hln hRt HT1
          generalize (q.terms.getD k noTm).exps = es at f0 hE HXd hel HD
          generalize (q.terms.getD k noTm).coef = cf at f1 HXd hcf
          have HEL := Lib.hid hel
          have HW0 : Hid (wgtA cf es l = wgtA cf (es.drop 0) (l.drop 0)) := rfl
          clear hel
          obtain ⟨wo, hwo⟩ : ∃ wo, wo = wr.alloc (.cells #[.slice a1 es.length c1, .int .i64 cf] 67) := ⟨_, rfl⟩
          have hx : Below wr.heap.size wr wo := by rw [hwo]; exact (Below.refl _ _).alloc (Nat.le_refl _) _
          have hw2 := Lib.hid (hw.trans (hx.mono hw.size))
          have hE2 := hE.below hx (Nat.le_refl _)
          have hA2 := hA.below hx (Nat.le_refl _)
          have HWO := Lib.hid hwo
          clear hE hA hx hwo hw
          go_wp2_with fail
          rw [← HWO.out]
          clear HWO f0 f1
          go_loopw [9, 32] (fun x i wi => ∃ (j : Nat) (v : Int), j ≤ es.length ∧ i = .int .i64 j ∧ x = .int .i64 v ∧ (0 ≤ v ∧ v < 1000003) ∧ Hid (wgtA cf es l = wgtA v (es.drop j) (l.drop j)) ∧ wi = wo) (fun _ i _ => es.length - (intOf i).toNat)
          case atStart => exact ⟨0, cf, Nat.zero_le _, rfl, rfl, by omega, HW0, rfl⟩
          case round =>
            obtain ⟨j, v, hj, rfl, rfl, hv1, HY, rfl⟩ := hrel
            clear HW0
            by_cases hje : j < es.length
            · have hjl : j < l.length := by have := HEL.out; omega
              obtain ⟨be, oe, rfl, hbe, hce⟩ := (hE2.resolve_left (by intro e; rw [e] at hje; simp at hje))
              obtain ⟨bl, ol, rfl, hbl, hcl⟩ := (hA2.resolve_left (by intro e; rw [e] at hjl; simp at hjl))
              have e0 := hce j hje
              have l0 := hcl j hjl
              obtain ⟨n, hn⟩ := Int.eq_ofNat_of_zero_le (HD.out j).1
              have hn12 : n ≤ 12 := by have := (HD.out j).2 hje; omega
              have HY2 : Hid (wgtA cf es l = wgtA (tms v (pwr (l.getD j 0) n)) (es.drop (j + 1)) (l.drop (j + 1))) := by
                show _ = _
                rw [HY.out, wgtA_drop hje hjl, hn]; rfl
              rw [hn] at e0
              have rl := hR.at j
              have hie : (j : Int) < (es.length : Int) := by omega
              have hil : (j : Int) < (l.length : Int) := by omega
              have bp := pwr_bd (l.getD j 0) n
              have bt2 := tms_bd v (pwr (l.getD j 0) n)
              clear hce hcl hn HY
              generalize l.getD j 0 = x at l0 rl HY2 bp bt2
              have HP := fun W => Lib.hid (iPower x n rl (by omega) W)
              generalize pwr x n = pw at HY2 bp bt2 HP
              have HM := fun W => Lib.hid (iTimes v pw (by omega) (by omega) W)
              go_wp2_with fail
              refine (HP _).out.mono ?_; rintro e w3 ⟨rfl, rfl⟩
              go_wp2_with fail
              refine (HM _).out.mono ?_; rintro e w3 ⟨rfl, rfl⟩
              go_wp2_with fail
              go_roundw
              case rel => exact ⟨j + 1, _, by omega, by go_num, rfl, bt2, HY2, by trivial⟩
              case measure => simp [intOf]; omega
            · have hjj : ¬ (j : Int) < (es.length : Int) := by omega
              have HQ : Hid (wgtA cf es l = v) := by show _ = _; rw [HY.out, wgtA_end (by have := HEL.out; omega)]
              have HX2 : Hid (valA l 0 q.terms = valA l (pls y v) (q.terms.drop (k + 1))) := by show _ = _; rw [HXd.out, HQ.out]
              have HS := fun W => Lib.hid (iPlus y v (by omega) (by omega) W)
              have bq := pls_bd y v
              clear HY HQ HXd
              go_wp2_with fail
              refine (HS _).out.mono ?_; rintro e w2 ⟨rfl, rfl⟩
              go_wp2_with fail
              go_roundw
              case rel => exact ⟨k + 1, _, by omega, by go_num, rfl, bq, HX2, hw2.out⟩
              case measure => simp [intOf]; omega
        · have hi : ¬ (k : Int) < (q.terms.length : Int) := by omega
          have HF : Hid (valA l 0 q.terms = y) := by show _ = _; rw [HX.out, valA_end (by omega)]
          go_wp2_with fail
          go_ret2
          exact ⟨ret_two (by first | exact (r1.out.trans HF.out).symm | exact HF.out.symm) (by first | exact r2.out.symm | rfl), HB2.trans (hw.mono HB2.size)⟩

end Go.Proofs.Ytggojffmfjeikaa
