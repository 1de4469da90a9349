/- The value of a polynomial, by the model and by the program. -/
import Derived.Test.YtggojffmfjeikaaPyw
import Derived.Test.YtggojffmfjeikaaAre
namespace Go.Proofs.Ytggojffmfjeikaa
open Go.RowKit
set_option linter.unusedVariables false

/-- a number times powers -/
def wgtA : Int → List Int → List Int → Int
  | x, a :: es, b :: ls => wgtA (tms x (pwr b a.toNat)) es ls
  | x, _, _ => x
theorem wgtA_drop {x : Int} {e l : List Int} {k : Nat} (h : k < e.length) (h2 : k < l.length) : wgtA x (e.drop k) (l.drop k) = wgtA (tms x (pwr (l.getD k 0) (e.getD k 0).toNat)) (e.drop (k + 1)) (l.drop (k + 1)) := by
  rw [List.drop_eq_getElem_cons h, List.drop_eq_getElem_cons h2, wgtA]
  simp only [List.getD_eq_getElem?_getD, List.getElem?_eq_getElem h, List.getElem?_eq_getElem h2, Option.getD_some]
theorem wgtA_end {x : Int} {e l : List Int} {k : Nat} (h : l.length ≤ k) : wgtA x (e.drop k) (l.drop k) = x := by
  rw [List.drop_eq_nil_of_le h]
  cases e.drop k <;> rfl
def valA (l : List Int) : Int → List Tm → Int
  | s, t :: r => valA l (pls s (wgtA t.coef t.exps l)) r
  | s, [] => s
theorem valA_drop {l : List Int} {s : Int} {t : List Tm} {k : Nat} (h : k < t.length) : valA l s (t.drop k) = valA l (pls s (wgtA (t.getD k noTm).coef (t.getD k noTm).exps l)) (t.drop (k + 1)) := by
  rw [List.drop_eq_getElem_cons h, valA, List.getD_eq_getElem?_getD, List.getElem?_eq_getElem h]; rfl
theorem valA_end {l : List Int} {s : Int} {t : List Tm} {k : Nat} (h : t.length ≤ k) : valA l s (t.drop k) = s := by rw [List.drop_eq_nil_of_le h]; rfl
def RPolyValue (q : Py) (l : List Int) : Int := if polyB q = true then (if areB l q.vars = true then valA l 0 q.terms else 0) else 0
def CPolyValue (q : Py) (l : List Int) : Int := if polyB q = true then (if areB l q.vars = true then 0 else 2) else 1

set_option maxRecDepth 100000 in
set_option maxHeartbeats 3200000 in
theorem sValuePoly (q : Py) (a : Option Addr) (c b o : Nat) (al : Option Addr) (cl : Nat) (l : List Int) (w : World) (hp1 : w.cell? ⟨b, o + 1, none⟩ = some (.slice a q.terms.length c))
    (hP : TmAt w 0 w.heap.size q.terms a) (hA : At w al l) (hl : l.length ≤ 1048576) (hR : Rng l) (hq : Hid (Okp q)) (hv : Hid ((l.length : Int) = q.vars)) :
    Calls Try.prog 48 #[.pointer (some ⟨b, o, none⟩), .slice al l.length cl] w (Qui (.int .i64 (valA l 0 q.terms)) w) := by
  have hlen : q.terms.length ≤ 120 := hq.out.size
  have H0 : Hid (valA l 0 q.terms = valA l 0 (q.terms.drop 0)) := rfl
  have HQ0 : Hid (Drw w w) := Drw.refl w
  go_enter Try.func48, Try.ntmps48
  go_wp2_with fail
  go_loopw [5, 6] (fun s i wr => ∃ (k : Nat) (y : Int), k ≤ q.terms.length ∧ i = .int .i64 k ∧ s = .int .i64 y ∧ (0 ≤ y ∧ y < 1000003) ∧ Hid (valA l 0 q.terms = valA l y (q.terms.drop k)) ∧ Hid (Drw w wr)) (fun _ i _ => q.terms.length - (intOf i).toNat)
  case atStart => exact ⟨0, 0, Nat.zero_le _, rfl, rfl, by omega, H0, HQ0⟩
  case round =>
    obtain ⟨k, y, hk, rfl, rfl, hy, HX, HQ⟩ := hrel
    clear H0 HQ0
    have hp1' : wr.cell? ⟨b, o + 1, none⟩ = some (.slice a q.terms.length c) := HQ.out.cell.trans hp1
    by_cases hlt : k < q.terms.length
    · obtain ⟨bt, off, rfl⟩ : ∃ bt off, a = some ⟨bt, off, none⟩ := by
        rcases hP with e | ⟨bt, off, e, _⟩
        · rw [e] at hlt; simp at hlt
        · exact ⟨bt, off, e⟩
      have hi : (k : Int) < (q.terms.length : Int) := by omega
      obtain ⟨a1, c1, hT, hRt⟩ := (hP.next HQ.out.below).term hlt
      obtain ⟨f0, f1, hE⟩ := hT
      have HXd := Lib.hid (HX.out.trans (valA_drop hlt))
      have hln := hq.out.len k hlt
      have hel : (q.terms.getD k noTm).exps.length = l.length := by have := hv.out; omega
      have hcf := hq.out.coef k hlt
      have HD := Lib.hid (degB_all (hq.out.deg k hlt))
      clear HX hP hln hRt hp1
      generalize (q.terms.getD k noTm).exps = es at f0 hE HXd hel HD
      generalize (q.terms.getD k noTm).coef = cf at f1 HXd hcf
      have HEL := Lib.hid hel
      have HW0 : Hid (wgtA cf es l = wgtA cf (es.drop 0) (l.drop 0)) := rfl
      clear hel
      go_wp2_with fail
      obtain ⟨wo, hwo⟩ : ∃ wo : World, wo = wr := ⟨_, rfl⟩
      rw [← hwo] at hp1' f0 f1 hE HQ ⊢
      clear hwo
      have HQ1 : Hid (Drw wo wo) := Drw.refl wo
      go_loopw [7, 8] (fun x i wi => ∃ (j : Nat) (v : Int), j ≤ l.length ∧ i = .int .i64 j ∧ x = .int .i64 v ∧ (0 ≤ v ∧ v < 1000003) ∧ Hid (wgtA cf es l = wgtA v (es.drop j) (l.drop j)) ∧ Hid (Drw wo wi)) (fun _ i _ => l.length - (intOf i).toNat)
      case atStart => exact ⟨0, cf, Nat.zero_le _, rfl, rfl, by omega, HW0, HQ1⟩
      case round =>
        obtain ⟨j, v, hj, rfl, rfl, hv1, HY, HQi⟩ := hrel
        clear HW0 HQ1
        by_cases hjl : j < l.length
        · have hje : j < es.length := by have := HEL.out; omega
          obtain ⟨be, oe, rfl, hbe, hce⟩ := ((hE.drw HQi.out).resolve_left (by intro e; rw [e] at hje; simp at hje))
          obtain ⟨bl, ol, rfl, hbl, hcl⟩ := ((hA.drw (HQ.out.trans HQi.out)).resolve_left (by intro e; rw [e] at hjl; simp at hjl))
          have e0 := hce j hje
          have l0 := hcl j hjl
          have hp1i : wr.cell? ⟨b, o + 1, none⟩ = some (.slice (some ⟨bt, off, none⟩) q.terms.length c) := HQi.out.cell.trans hp1'
          have f0i : wr.cell? ⟨bt, off + k * 2, none⟩ = some (.slice (some ⟨be, oe, none⟩) es.length c1) := HQi.out.cell.trans f0
          obtain ⟨n, hn⟩ := Int.eq_ofNat_of_zero_le (HD.out j).1
          have hn12 : n ≤ 12 := by have := (HD.out j).2 hje; omega
          have HY2 : Hid (wgtA cf es l = wgtA (tms v (pwr (l.getD j 0) n)) (es.drop (j + 1)) (l.drop (j + 1))) := by
            show _ = _
            rw [HY.out, wgtA_drop hje hjl, hn]; rfl
          rw [hn] at e0
          have rl := hR.at j
          have hie : (j : Int) < (es.length : Int) := by omega
          have hil : (j : Int) < (l.length : Int) := by omega
          have HQ3 := fun n => Lib.hid (HQi.out.more n)
          have bp := pwr_bd (l.getD j 0) n
          have bt2 := tms_bd v (pwr (l.getD j 0) n)
          clear hce hcl hn HY hp1'
          generalize l.getD j 0 = x at l0 rl HY2 bp bt2
          have HP := fun W => Lib.hid (sPower x n rl (by omega) W)
          generalize pwr x n = pw at HY2 bp bt2 HP
          have HM := fun W => Lib.hid (sTimes v pw (by omega) (by omega) W)
          go_wp2_with fail
          go_quiet ((first | (go_at_call 85; exact quiet_same (HP _).out) | (go_at_call 82; exact quiet_same (HM _).out)))
          go_wp2_with fail
          go_roundw
          case rel => exact ⟨j + 1, _, by omega, by go_num, rfl, bt2, HY2, HQ3 _⟩
          case measure => simp [intOf]; omega
        · have hjj : ¬ (j : Int) < (l.length : Int) := by omega
          have HV : Hid (wgtA cf es l = v) := by show _ = _; rw [HY.out, wgtA_end (by omega)]
          have HX2 : Hid (valA l 0 q.terms = valA l (pls y v) (q.terms.drop (k + 1))) := by show _ = _; rw [HXd.out, HV.out]
          have HS := fun W => Lib.hid (sPlus y v (by omega) (by omega) W)
          have bq := pls_bd y v
          have HQ3 := Lib.hid (HQ.out.trans HQi.out)
          clear HY HV HXd
          go_wp2_with fail
          refine (HS _).out.mono ?_; rintro e w2 ⟨rfl, rfl⟩
          go_wp2_with fail
          go_roundw
          case rel => exact ⟨k + 1, _, by omega, by go_num, rfl, bq, HX2, HQ3⟩
          case measure => simp [intOf]; omega
    · have hi : ¬ (k : Int) < (q.terms.length : Int) := by omega
      have HF : Hid (valA l 0 q.terms = y) := by show _ = _; rw [HX.out, valA_end (by omega)]
      go_wp2_with fail
      go_ret
      exact ⟨ret_int HF.out.symm, HQ.out⟩

theorem valR_bad {q : Py} {l : List Int} (h : polyB q = false) : RPolyValue q l = 0 ∧ CPolyValue q l = 1 := by
  unfold RPolyValue CPolyValue; rw [h]; exact ⟨rfl, rfl⟩
theorem valR_no {q : Py} {l : List Int} (h : polyB q = true) (h2 : areB l q.vars = false) : RPolyValue q l = 0 ∧ CPolyValue q l = 2 := by
  unfold RPolyValue CPolyValue; rw [h, h2]; exact ⟨rfl, rfl⟩
theorem valR_ok {q : Py} {l : List Int} (h : polyB q = true) (h2 : areB l q.vars = true) : RPolyValue q l = valA l 0 q.terms ∧ CPolyValue q l = 0 := by
  unfold RPolyValue CPolyValue; rw [h, h2]; exact ⟨rfl, rfl⟩

set_option maxRecDepth 100000 in
set_option maxHeartbeats 3200000 in
theorem sPolyValue (q : Py) (a : Option Addr) (c : Nat) (al : Option Addr) (cl : Nat) (l : List Int) (w : World) (hP : TmAt w 0 w.heap.size q.terms a) (hA : At w al l) (hR : Rng l) (hl : l.length ≤ 1048576) (hs : tmSize q.terms ≤ 1048576) :
    Calls Try.prog 18 #[pyv q a c, .slice al l.length cl] w fun e w' => e = .returned (.tuple #[.int .i64 (RPolyValue q l), .int .i64 (CPolyValue q l)]) ∧ Below w.heap.size w w' := by
  unfold pyv
  obtain ⟨w0, hw0⟩ : ∃ w0, w0 = w.alloc (.cells #[.int .i64 q.vars, .slice a q.terms.length c] 29) := ⟨_, rfl⟩
  have HB : Below w.heap.size w w0 := by rw [hw0]; exact (Below.refl _ _).alloc (Nat.le_refl _) _
  have p0 : w0.cell? ⟨w.heap.size, 0, none⟩ = some (.int .i64 q.vars) := by rw [hw0]; simp [go_sem]
  have p1 : w0.cell? ⟨w.heap.size, 1, none⟩ = some (.slice a q.terms.length c) := by rw [hw0]; simp [go_sem]
  have HC := Lib.hid (sOkPoly q a c w.heap.size 0 w0 p0 p1 (hP.next HB) hs)
  have HT := Lib.hid (show ∀ W, Drw w0 W → TmAt W 0 W.heap.size q.terms a ∧ At W al l from fun W hW => ⟨(hP.next HB).next hW.below, (hA.below HB (Nat.le_refl _)).drw hW⟩)
  clear hP hA hs
  cases hb : polyB q with
  | false =>
    obtain ⟨r1, r2⟩ := valR_bad (l := l) hb
    have r1 := Lib.hid r1
    have r2 := Lib.hid r2
    rw [hb] at HC
    clear hb
    go_enter Try.func18, Try.ntmps18
    go_wp2_with fail
    rw [← hw0]
    clear hw0
    refine HC.out.mono ?_; rintro e w1 ⟨rfl, hd⟩
    have HB2 := HB.trans ((show Drw w0 w1 from hd).below.mono HB.size)
    clear hd
    go_wp2_with fail
    go_ret2
    exact ⟨ret_two r1.out.symm r2.out.symm, HB2⟩
  | true =>
    rw [hb] at HC
    have HV := Lib.hid (polyB_ok hb)
    by_cases h1 : (l.length : Int) = q.vars
    rotate_left
    · obtain ⟨r1, r2⟩ := valR_no hb (areB_len h1)
      have r1 := Lib.hid r1
      have r2 := Lib.hid r2
      have hne : ((l.length : Int) != q.vars) = true := by simpa using h1
      clear hb h1
      go_enter Try.func18, Try.ntmps18
      go_wp2_with fail
      rw [← hw0]
      clear hw0
      refine HC.out.mono ?_; rintro e w1 ⟨rfl, hd⟩
      have hd := (show Drw w0 w1 from hd)
      have HB2 := HB.trans (hd.below.mono HB.size)
      replace p0 := (hd.cell (a := ⟨w.heap.size, 0, none⟩)).trans p0
      clear hd p1
      go_wp2_with fail
      go_ret2
      exact ⟨ret_two r1.out.symm r2.out.symm, HB2⟩
    have hne : ((l.length : Int) != q.vars) = false := by simpa using h1
    have hv : Hid ((l.length : Int) = q.vars) := h1
    have hA2 := areB_of h1
    cases hk : okNums l with
    | false =>
      rw [hk] at hA2
      obtain ⟨r1, r2⟩ := valR_no hb hA2
      have r1 := Lib.hid r1
      have r2 := Lib.hid r2
      have HN := Lib.hid (fun (W : World) (hW : Drw w0 W) => hk ▸ sNumbers al cl l W (HT.out W hW).2 (by omega))
      clear hb h1 hA2 hk
      go_enter Try.func18, Try.ntmps18
      go_wp2_with fail
      rw [← hw0]
      clear hw0
      refine HC.out.mono ?_; rintro e w1 ⟨rfl, hd⟩
      have hd := (show Drw w0 w1 from hd)
      have HB2 := HB.trans (hd.below.mono HB.size)
      replace p0 := (hd.cell (a := ⟨w.heap.size, 0, none⟩)).trans p0
      have HN2 := Lib.hid (HN.out w1 hd)
      clear hd p1 HN
      go_wp2_with fail
      refine HN2.out.mono ?_; rintro e w2 ⟨rfl, rfl⟩
      go_wp2_with fail
      go_ret2
      exact ⟨ret_two r1.out.symm r2.out.symm, HB2⟩
    | true =>
      rw [hk] at hA2
      obtain ⟨r1, r2⟩ := valR_ok hb hA2
      have r1 := Lib.hid r1
      have r2 := Lib.hid r2
      have HN := Lib.hid (fun (W : World) (hW : Drw w0 W) => hk ▸ sNumbers al cl l W (HT.out W hW).2 (by omega))
      clear hb h1 hA2 hk
      go_enter Try.func18, Try.ntmps18
      go_wp2_with fail
      rw [← hw0]
      clear hw0
      refine HC.out.mono ?_; rintro e w1 ⟨rfl, hd⟩
      have hd := (show Drw w0 w1 from hd)
      have HB2 := HB.trans (hd.below.mono HB.size)
      replace p0 := (hd.cell (a := ⟨w.heap.size, 0, none⟩)).trans p0
      replace p1 := (hd.cell (a := ⟨w.heap.size, 1, none⟩)).trans p1
      have HN2 := Lib.hid (HN.out w1 hd)
      have HX := Lib.hid (sValuePoly q a c w.heap.size 0 al cl l w1 p1 (HT.out w1 hd).1 (HT.out w1 hd).2 hl hR HV hv)
      clear hd p1 HN
      go_wp2_with fail
      refine HN2.out.mono ?_; rintro e w2 ⟨rfl, rfl⟩
      go_wp2_with fail
      refine HX.out.mono ?_; rintro e w2 ⟨rfl, hd⟩
      have HB3 := HB2.trans ((show Drw w1 w2 from hd).below.mono HB2.size)
      clear hd
      go_wp2_with fail
      go_ret2
      exact ⟨ret_two r1.out.symm r2.out.symm, HB3⟩

end Go.Proofs.Ytggojffmfjeikaa
