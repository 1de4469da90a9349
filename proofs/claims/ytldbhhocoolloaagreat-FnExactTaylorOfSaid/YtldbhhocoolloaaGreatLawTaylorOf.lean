/- HigherDerivative by the model. TaylorOf by the model. The law on Taylor coefficients along a direction. -/
import Derived.Deep.RegionHeld3
import Derived.Test.YtldbhhocoolloaaGreatUl
import Derived.Test.YtldbhhocoolloaaGreatMt
namespace Go.Proofs.YtldbhhocoolloaaGreat
open Go.RowKit
set_option linter.unusedVariables false

set_option maxRecDepth 100000 in
set_option maxHeartbeats 3200000 in
theorem sFact (n : Nat) (hn : n ≤ 12) (w : World) :
    Calls Tryz.prog 71 #[.int .i64 n] w fun e w' => e = .returned (.int .i64 (facF (n - 1))) ∧ w = w' := by
  go_enter Tryz.func71, Tryz.ntmps71
  go_wp2_with fail
  go_loopw [3, 4] (fun v x wr => ∃ i : Nat, i ≤ n - 1 ∧ x = .int .i64 ((i : Int) + 2) ∧ v = .int .i64 (facF i) ∧ w = wr) (fun _ x _ => n + 2 - (intOf x).toNat)
  case atStart => exact ⟨0, Nat.zero_le _, rfl, rfl, rfl⟩
  case round =>
    obtain ⟨i, hi, rfl, rfl, rfl⟩ := hrel
    have hb := facF_bd i
    have HE : Hid (facF (i + 1) = tms (facF i) ((i : Int) + 2)) := rfl
    have HEN : Hid (¬ (i : Int) + 2 ≤ (n : Int) → facF (n - 1) = facF i) := fun h => by rw [show n - 1 = i by omega]
    generalize facF i = x at *
    have HT := fun W => Lib.hid (sTimes x ((i : Int) + 2) (by omega) (by omega) W)
    by_cases hlt : (i : Int) + 2 ≤ (n : Int)
    · clear HEN
      go_wp2_with fail
      refine (HT _).out.mono ?_; rintro e w' ⟨rfl, rfl⟩
      go_wp2_with fail
      go_roundw
      case rel => exact ⟨i + 1, by omega, by go_num, by rw [HE.out], by first | rfl | trivial⟩
      case measure => simp [intOf]; omega
    · clear HT
      go_wp2_with fail
      go_ret
      exact ⟨by rw [HEN.out hlt]; rfl, rfl⟩

set_option maxRecDepth 100000 in
set_option maxHeartbeats 3200000 in
theorem sTaylor (o : Int) (n : Nat) (ho : o + 1 = (n : Int)) (hn1 : 1 ≤ n) (hn13 : n ≤ 13) (fs : List Fn) (bp op : Nat) (ap : Option Addr) (capp : Nat) (j : Nat) (aa da : Option Addr) (ca cd : Nat) (args dir : List Int) (w : World)
    (hp : w.cell? ⟨bp, op, none⟩ = some (.slice ap fs.length capp)) (hpb : progB fs = true) (hj : j < fs.length) (hfl : fs.length ≤ 1048576) (hP : Pat w 0 w.heap.size fs ap) (hA : At w aa args) (hD : At w da dir) (hl : dir.length = args.length) (hN : Nums args) (hM : Nums dir) (hal : (args.length : Int) = (fs.getD j noFn).params) :
    Calls Tryz.prog 59 #[.pointer (some ⟨bp, op, none⟩), .int .i64 j, .slice aa args.length ca, .slice da dir.length cd, .int .i64 o] w (EvS n (fs.getD j noFn).outs.len w (lisE (sA n) (evE (sA n) fs 3001) (fs.getD j noFn).outs (lnT args dir n args.length) 0 (fs.getD j noFn).outs.len)) := by
  have hbp := cell_lt hp
  have hargs : args.length ≤ 12 := by obtain ⟨g1, _, _⟩ := fn_parts (progB_fn hpb hj); omega
  have HLN := Lib.hid (sLine n hn1 hn13 o ho bp aa da ca cd args dir w hbp hA hD hl hargs hN hM)
  have HEV := fun (g kg : Nat) (W : World) (hW : Below w.heap.size w W) (hO : Eo W w.heap.size bp (fun _ => False) n g kg args.length (lnT args dir n args.length)) => Lib.hid (show Calls Tryz.prog 50 #[.pointer (some ⟨bp, op, none⟩), .int .i64 j, .slice (some ⟨g, 0, none⟩) args.length kg, .int .i64 n] W (EvS n (fs.getD j noFn).outs.len W (lisE (sA n) (evE (sA n) fs 3001) (fs.getD j noFn).outs (lnT args dir n args.length) 0 (fs.getD j noFn).outs.len)) from by
    have h := sEval3 n hn1 hn13 fs bp op ap capp j bp (fun q => False ∨ w.heap.size ≤ q ∧ q < W.heap.size) (some ⟨g, 0, none⟩) kg (lnT args dir n args.length) W ((hW.cell (p := ⟨bp, op, none⟩) hbp).trans hp) hpb hj hfl ((hP.below hW).mono (Nat.le_refl _) hW.size) (hO.en hbp) (fun q hq => by rcases hq with hq | hq; cases hq; exact hq.2) (by rw [lnT_len]; exact hal)
    rw [lnT_len] at h
    exact h)
  clear hp hP hA hD hl hN hM hal
  generalize lisE (sA n) (evE (sA n) fs 3001) (fs.getD j noFn).outs (lnT args dir n args.length) 0 (fs.getD j noFn).outs.len = r at HEV ⊢
  generalize (fs.getD j noFn).outs.len = mo at *
  go_enter Tryz.func59, Tryz.ntmps59
  go_wp2_with fail
  refine HLN.out.mono ?_; rintro e w1 ⟨g, kg, rfl, hO, hb1⟩
  have HE1 := HEV g kg w1 hb1 hO
  clear HEV HLN hO
  go_wp2_with fail
  refine HE1.out.mono ?_; rintro e w2 ⟨hb2, ⟨hc, g2, kg2, L, br, rfl, hbr, hbL, ho2⟩ | ⟨hc, g2, rfl⟩⟩
  · go_wp2_with fail
    go_ret2
    have hs := hb1.size
    exact ⟨hb1.trans (hb2.mono hs), .inl ⟨hc, g2, kg2, L, br, rfl, by omega, hbL, ho2⟩⟩
  · go_wp2_with fail
    go_ret2
    have hs := hb1.size
    exact ⟨hb1.trans (hb2.mono hs), .inr ⟨hc, g2, rfl⟩⟩

/-- the code for a place, an output and a direction -/
def pkC (fs : List Fn) (f pick : Int) (args dir : List Int) : Int := if drC fs f args dir = 0 then (if 0 ≤ pick ∧ pick ≤ ((fs.getD f.toNat noFn).outs.len : Int) - 1 then 0 else 2) else drC fs f args dir
set_option maxRecDepth 100000 in
set_option maxHeartbeats 3200000 in
theorem sPickedH (fs : List Fn) (bp op : Nat) (ap : Option Addr) (capp : Nat) (f pick : Int) (aa da : Option Addr) (ca cd : Nat) (args dir : List Int) (w : World)
    (hp : w.cell? ⟨bp, op, none⟩ = some (.slice ap fs.length capp)) (hP : Pat w 0 w.heap.size fs ap) (hsz : pgSize fs ≤ 1048576) (hA : At w aa args) (hal : args.length ≤ 1048576) (hD : At w da dir) (hdl : dir.length ≤ 1048576) :
    Calls Tryz.prog 69 #[.pointer (some ⟨bp, op, none⟩), .int .i64 f, .int .i64 pick, .slice aa args.length ca, .slice da dir.length cd] w (Quiet (.int .i64 (pkC fs f pick args dir)) w) := by
  have HA := Lib.hid (sAsked3 fs bp op ap capp f aa da ca cd args dir w hp hP hsz hA hal hD hdl)
  by_cases h0 : drC fs f args dir = 0
  · have HPK : Hid (pkC fs f pick args dir = if 0 ≤ pick ∧ pick ≤ ((fs.getD f.toNat noFn).outs.len : Int) - 1 then 0 else 2) := if_pos h0
    obtain ⟨k1, k2, k3⟩ := plC_known (drC_known h0).1
    rw [h0] at HA
    generalize pkC fs f pick args dir = pc at *
    obtain ⟨j, rfl⟩ := Int.eq_ofNat_of_zero_le k2.1
    rw [show (j : Int).toNat = j from rfl] at HPK
    have hj : j < fs.length := by omega
    have hji : (j : Int) < (fs.length : Int) := by omega
    obtain ⟨bf, of, rfl, hbB, hall⟩ := hP.resolve_left (by intro e; rw [e] at hj; simp at hj)
    obtain ⟨hrr, af, cf, f0, f1, f2, hFo⟩ := hall j hj
    have HI := fun W => Lib.hid (sIn pick 0 (((fs.getD j noFn).outs.len : Int) - 1) W)
    have hol : (fs.getD j noFn).outs.len ≤ 12 := (fn_parts (progB_fn k1 hj)).2.1.2
    clear k1 k2 k3 hall hrr f0 f1 hFo hP hA hD h0
    generalize (fs.getD j noFn).outs.len = mo at *
    by_cases h1 : 0 ≤ pick ∧ pick ≤ (mo : Int) - 1
    · have HP0 : Hid (pc = 0) := by show _ = _; rw [HPK.out, if_pos h1]
      have hi1 : inB pick 0 ((mo : Int) - 1) = true := by unfold inB; simp; omega
      rw [hi1] at HI
      clear HPK h1 hi1
      go_enter Tryz.func69, Tryz.ntmps69
      go_wp2_with fail
      refine HA.out.mono ?_; rintro e w1 ⟨rfl, q, rfl⟩
      have f2' : (w.drewN q).cell? ⟨bf, of + j * 3 + 2, none⟩ = some (.slice af mo cf) := f2
      have hp' : (w.drewN q).cell? ⟨bp, op, none⟩ = some (.slice (some ⟨bf, of, none⟩) fs.length capp) := hp
      go_wp2_with fail
      refine (HI _).out.mono ?_; rintro e w1 ⟨rfl, rfl⟩
      go_wp2_with fail
      go_ret
      exact ⟨ret_int HP0.out.symm, q, rfl⟩
    · have HP0 : Hid (pc = 2) := by show _ = _; rw [HPK.out, if_neg h1]
      have hi1 : inB pick 0 ((mo : Int) - 1) = false := by
        cases hb : inB pick 0 ((mo : Int) - 1) with
        | false => rfl
        | true => exfalso; apply h1; unfold inB at hb; simp at hb; omega
      rw [hi1] at HI
      clear HPK h1 hi1
      go_enter Tryz.func69, Tryz.ntmps69
      go_wp2_with fail
      refine HA.out.mono ?_; rintro e w1 ⟨rfl, q, rfl⟩
      have f2' : (w.drewN q).cell? ⟨bf, of + j * 3 + 2, none⟩ = some (.slice af mo cf) := f2
      have hp' : (w.drewN q).cell? ⟨bp, op, none⟩ = some (.slice (some ⟨bf, of, none⟩) fs.length capp) := hp
      go_wp2_with fail
      refine (HI _).out.mono ?_; rintro e w1 ⟨rfl, rfl⟩
      go_wp2_with fail
      go_ret
      exact ⟨ret_int HP0.out.symm, q, rfl⟩
  · have HPK : Hid (pkC fs f pick args dir = drC fs f args dir) := if_neg h0
    have hbf : (drC fs f args dir == 0) = false := by simp [h0]
    rw [← HPK.out] at HA hbf
    clear HPK
    generalize pkC fs f pick args dir = pc at *
    go_enter Tryz.func69, Tryz.ntmps69
    go_wp2_with fail
    refine HA.out.mono ?_; rintro e w1 ⟨rfl, q, rfl⟩
    go_wp2_with fail
    go_ret
    exact ⟨rfl, q, rfl⟩

theorem tms_cmm (a b : Int) : tms a b = tms b a := by unfold tms; rw [Int.mul_comm]
set_option maxRecDepth 100000 in
set_option maxHeartbeats 6400000 in
theorem sHigher (fs : List Fn) (ap : Option Addr) (capp : Nat) (f pick : Int) (aa da : Option Addr) (ca cd : Nat) (args dir : List Int) (order : Int) (w : World) (hP : Pat w 0 w.heap.size fs ap) (hsz : pgSize fs ≤ 1048576) (hA : At w aa args) (hal : args.length ≤ 1048576) (hD : At w da dir) (hdl : dir.length ≤ 1048576) :
    Calls Tryz.prog 34 #[.agg #[.slice ap fs.length capp], .int .i64 f, .int .i64 pick, .slice aa args.length ca, .slice da dir.length cd, .int .i64 order] w fun e w' => e = .returned (.tuple #[.int .i64 (hdV (hdL fs f pick args dir order) pick order), .int .i64 (hdL fs f pick args dir order).c]) ∧ Below w.heap.size w w' := by
  have hfl : fs.length ≤ 1048576 := by unfold pgSize at hsz; omega
  obtain ⟨w0, hw0⟩ : ∃ w0, w.alloc (.cells #[.slice ap fs.length capp] 31) = w0 := ⟨_, rfl⟩
  have hb0 : Below w.heap.size w w0 := by rw [← hw0]; exact (Below.refl _ _).alloc (Nat.le_refl _) _
  have P0 := (hP.below hb0).mono (Nat.le_refl _) hb0.size
  have A0 := hA.below hb0 (Nat.le_refl _)
  have D0 := hD.below hb0 (Nat.le_refl _)
  have c0 : w0.cell? ⟨w.heap.size, 0, none⟩ = some (.slice ap fs.length capp) := by rw [← hw0]; simp [go_sem]
  have HS := Lib.hid (sPickedH fs w.heap.size 0 ap capp f pick aa da ca cd args dir w0 c0 P0 hsz A0 hal D0 hdl)
  have HIN := fun W => Lib.hid (sIn order 0 12 W)
  have HHC : Hid (hdC fs f pick args dir order = if pkC fs f pick args dir = 0 then (if 0 ≤ order ∧ order ≤ 12 then 0 else 2) else pkC fs f pick args dir) := by
    show _ = _
    unfold hdC pkC
    by_cases h0 : drC fs f args dir = 0
    · rw [if_pos h0, if_pos h0]
      by_cases h1 : 0 ≤ pick ∧ pick ≤ ((fs.getD f.toNat noFn).outs.len : Int) - 1
      · rw [if_pos h1, if_pos rfl]
        by_cases h2 : 0 ≤ order ∧ order ≤ 12
        · rw [if_pos h2, if_pos ⟨⟨h1.1, by omega⟩, h2.1, by omega⟩]
        · rw [if_neg h2, if_neg (fun h => h2 ⟨h.2.1, by omega⟩)]
      · rw [if_neg h1, if_neg (fun h => h1 ⟨h.1.1, by omega⟩), if_neg (by decide)]
    · rw [if_neg h0, if_neg h0, if_neg h0]
  by_cases hc : hdC fs f pick args dir order = 0
  · have hpk : pkC fs f pick args dir = 0 ∧ (0 ≤ order ∧ order ≤ 12) := by
      have h := HHC.out
      rw [hc] at h
      by_cases h1 : pkC fs f pick args dir = 0
      · rw [if_pos h1] at h
        by_cases h2 : 0 ≤ order ∧ order ≤ 12
        · exact ⟨h1, h2⟩
        · rw [if_neg h2] at h; cases h
      · rw [if_neg h1] at h; exact absurd h.symm h1
    have hdr : drC fs f args dir = 0 ∧ (0 ≤ pick ∧ pick < ((fs.getD f.toNat noFn).outs.len : Int)) := by
      have h := hc
      unfold hdC at h
      by_cases h0 : drC fs f args dir = 0
      · rw [if_pos h0] at h
        by_cases h1 : (0 ≤ pick ∧ pick < ((fs.getD f.toNat noFn).outs.len : Int)) ∧ (0 ≤ order ∧ order < 13)
        · exact ⟨h0, h1.1⟩
        · rw [if_neg h1] at h; cases h
      · rw [if_neg h0] at h; exact absurd h h0
    obtain ⟨k1, k2, k3⟩ := plC_known (drC_known hdr.1).1
    have k4 := (drC_known hdr.1).2
    rw [hpk.1] at HS
    have hin : inB order 0 12 = true := by unfold inB; simp; omega
    rw [hin] at HIN
    have HL := Lib.hid (hdL_yes hc)
    obtain ⟨j, rfl⟩ := Int.eq_ofNat_of_zero_le k2.1
    have ej : (j : Int).toNat = j := rfl
    rw [ej] at hdr k3 k4
    obtain ⟨m, hm⟩ := Int.eq_ofNat_of_zero_le hpk.2.1
    obtain ⟨pk, hpk2⟩ := Int.eq_ofNat_of_zero_le hdr.2.1
    have hj : j < fs.length := by omega
    have hm12 : m ≤ 12 := by omega
    have hpl : pk < (fs.getD j noFn).outs.len := by omega
    subst hm
    subst hpk2
    have HL2 : Hid (hdL fs (j : Int) (pk : Int) args dir (m : Int) = lisE (sA (m + 1)) (evE (sA (m + 1)) fs 3001) (fs.getD j noFn).outs (lnT args dir (m + 1) args.length) 0 (fs.getD j noFn).outs.len) := HL.out
    have HT := fun (q : Nat) => Lib.hid (sTaylor (m : Int) (m + 1) (by omega) (by omega) (by omega) fs w.heap.size 0 ap capp j aa da ca cd args dir (w0.drewN q) c0 k1 hj hfl (P0.below (below_drewN (Below.refl _ _) q)) (A0.drewN q) (D0.drewN q) (by have := areB_ln k3; have := areB_ln k4; omega) (areB_nm k3) (areB_nm k4) (areB_ln k3))
    have HFC := fun W => Lib.hid (sFact m hm12 W)
    have hfb := facF_bd (m - 1)
    have HTM := fun (c : Int) (hc : 0 ≤ c ∧ c < 1000003) W => Lib.hid (sTimes c (facF (m - 1)) (by omega) (by omega) W)
    have HLE : Hid ((lisE (sA (m + 1)) (evE (sA (m + 1)) fs 3001) (fs.getD j noFn).outs (lnT args dir (m + 1) args.length) 0 (fs.getD j noFn).outs.len).c = 0 → (lisE (sA (m + 1)) (evE (sA (m + 1)) fs 3001) (fs.getD j noFn).outs (lnT args dir (m + 1) args.length) 0 (fs.getD j noFn).outs.len).l.length = (fs.getD j noFn).outs.len) := lisE_len _
    generalize lisE (sA (m + 1)) (evE (sA (m + 1)) fs 3001) (fs.getD j noFn).outs (lnT args dir (m + 1) args.length) 0 (fs.getD j noFn).outs.len = r at HT HL2 HLE
    generalize (fs.getD j noFn).outs.len = mo at *
    have hmb : (m : Int) < ((m + 1 : Nat) : Int) := by omega
    clear HL HHC hc hpk hdr k1 k2 k3 k4 hin hP hA hD P0 A0 D0 hfb c0 ej
    go_enter Tryz.func34, Tryz.ntmps34
    go_wp2_with fail
    clear hw0
    refine HS.out.mono ?_; rintro e w1 ⟨rfl, q, rfl⟩
    have HTQ := HT q
    clear HT HS
    go_wp2_with fail
    refine (HIN _).out.mono ?_; rintro e w1 ⟨rfl, rfl⟩
    go_wp2_with fail
    refine HTQ.out.mono ?_; rintro e w2 ⟨hb2, ⟨hcr, g, kg, L, br, rfl, hbr, hbL, hO⟩ | ⟨hcr, g, rfl⟩⟩
    · have hE := hO.en hbL
      have hlv : r.l.length = mo := HLE.out hcr
      have hpl2 : pk < r.l.length := by omega
      obtain ⟨b7, o7, e7, hb7, hlt7, hall⟩ := hE.rows.resolve_left (by intro e; rw [e] at hpl2; simp at hpl2)
      cases e7
      obtain ⟨a5, c5, hx, hls, _⟩ := hall pk hpl2
      rw [Nat.zero_add] at hx
      have hl5 := hE.len pk hpl2
      have hnm := (hE.nums pk hpl2).at m
      obtain ⟨b8, o8, rfl, hb8, hc8⟩ := hls.at_.resolve_left (by intro e; rw [e] at hl5; simp at hl5)
      have hy := hc8 m (by omega)
      have hpi : (pk : Int) < (mo : Int) := by omega
      have HV : Hid (hdV r (pk : Int) (m : Int) = tms ((r.l.getD pk []).getD m 0) (facF (m - 1))) := by
        show _ = _
        unfold hdV Sr.cfV
        rw [if_pos hcr, tms_cmm]
        rfl
      have HTN := HTM _ hnm
      have HCR := Lib.hid hcr
      have HBB : Hid (Below w.heap.size w w2) := hb0.trans ((below_drewN (Below.refl w0.heap.size w0) q).trans (hb2.mono (Nat.le_refl _)) |>.mono hb0.size)
      clear HTM hE hO hall hls hc8 HLE hcr hlv hnm
      generalize (r.l.getD pk []).getD m 0 = x at *
      generalize facF (m - 1) = fa at *
      go_wp2_with fail
      go_region_with (first
        | (go_at_call 71; refine (HFC _).out.mono ?_; rintro e w' ⟨rfl, rfl⟩)
        | (go_at_call 70; refine (HTN _).out.mono ?_; rintro e w' ⟨rfl, rfl⟩))
      all_goals
        go_wp2_with fail
        go_ret2
        exact ⟨by rw [HL2.out, HV.out, HCR.out]; rfl, HBB.out.drew⟩
    · have hbf : (r.c != 0) = true := by simp [hcr]
      have HV : Hid (hdV r (pk : Int) (m : Int) = 0) := hdV_no hcr
      have HBB : Hid (Below w.heap.size w w2) := hb0.trans ((below_drewN (Below.refl w0.heap.size w0) q).trans (hb2.mono (Nat.le_refl _)) |>.mono hb0.size)
      clear HTM HLE HFC
      go_wp2_with fail
      go_ret2
      exact ⟨by rw [HL2.out, HV.out]; rfl, HBB.out⟩
  · have HL := Lib.hid (hdL_no hc)
    have HV : Hid (hdV ⟨[], 0, hdC fs f pick args dir order⟩ pick order = 0) := hdV_no hc
    have HNC := Lib.hid hc
    by_cases h1 : pkC fs f pick args dir = 0
    · have h2 : ¬ (0 ≤ order ∧ order ≤ 12) := fun h => hc (by rw [HHC.out, if_pos h1, if_pos h])
      have hcc : Hid (hdC fs f pick args dir order = 2) := by show _ = _; rw [HHC.out, if_pos h1, if_neg h2]
      have hin : inB order 0 12 = false := by
        cases hb : inB order 0 12 with
        | false => rfl
        | true => exfalso; apply h2; unfold inB at hb; simp at hb; omega
      rw [hin] at HIN
      rw [h1] at HS
      clear HHC hc h1 h2 hin hP hA hD P0 A0 D0 c0 HNC
      go_enter Tryz.func34, Tryz.ntmps34
      go_wp2_with fail
      clear hw0
      refine HS.out.mono ?_; rintro e w1 ⟨rfl, q, rfl⟩
      go_wp2_with fail
      refine (HIN _).out.mono ?_; rintro e w1 ⟨rfl, rfl⟩
      go_wp2_with fail
      go_ret2
      exact ⟨by rw [HL.out, HV.out, hcc.out]; rfl, hb0.trans ((below_drewN (Below.refl w0.heap.size w0) q).mono hb0.size)⟩
    · have hcc : Hid (hdC fs f pick args dir order = pkC fs f pick args dir) := by show _ = _; rw [HHC.out, if_neg h1]
      have hbf : (pkC fs f pick args dir == 0) = false := by simp [h1]
      have hbf2 : (pkC fs f pick args dir != 0) = true := by simp [h1]
      clear HHC hc h1 hP hA hD P0 A0 D0 c0 HNC HIN
      generalize pkC fs f pick args dir = pc at *
      go_enter Tryz.func34, Tryz.ntmps34
      go_wp2_with fail
      clear hw0
      refine HS.out.mono ?_; rintro e w1 ⟨rfl, q, rfl⟩
      go_wp2_with fail
      go_ret2
      exact ⟨by rw [HL.out, HV.out, hcc.out]; rfl, hb0.trans ((below_drewN (Below.refl w0.heap.size w0) q).mono hb0.size)⟩

end Go.Proofs.YtldbhhocoolloaaGreat

namespace Go.Proofs.YtldbhhocoolloaaGreat
open Go.RowKit
set_option linter.unusedVariables false

set_option maxRecDepth 100000 in
set_option maxHeartbeats 6400000 in
theorem sTaylorOf (fs : List Fn) (ap : Option Addr) (capp : Nat) (f : Int) (aa da : Option Addr) (ca cd : Nat) (args dir : List Int) (order : Int) (w : World) (hP : Pat w 0 w.heap.size fs ap) (hsz : pgSize fs ≤ 1048576) (hA : At w aa args) (hal : args.length ≤ 1048576) (hD : At w da dir) (hdl : dir.length ≤ 1048576) :
    Calls Tryz.prog 32 #[.agg #[.slice ap fs.length capp], .int .i64 f, .slice aa args.length ca, .slice da dir.length cd, .int .i64 order] w (TaM w (taL fs f args dir order)) := by
  have hfl : fs.length ≤ 1048576 := by unfold pgSize at hsz; omega
  obtain ⟨w0, hw0⟩ : ∃ w0, w.alloc (.cells #[.slice ap fs.length capp] 31) = w0 := ⟨_, rfl⟩
  have hb0 : Below w.heap.size w w0 := by rw [← hw0]; exact (Below.refl _ _).alloc (Nat.le_refl _) _
  have P0 := (hP.below hb0).mono (Nat.le_refl _) hb0.size
  have A0 := hA.below hb0 (Nat.le_refl _)
  have D0 := hD.below hb0 (Nat.le_refl _)
  have c0 : w0.cell? ⟨w.heap.size, 0, none⟩ = some (.slice ap fs.length capp) := by rw [← hw0]; simp [go_sem]
  have HS := Lib.hid (sAsked3 fs w.heap.size 0 ap capp f aa da ca cd args dir w0 c0 P0 hsz A0 hal D0 hdl)
  have HIN := fun W => Lib.hid (sIn order 0 12 W)
  have HQ : Hid (∀ q, Below w.heap.size w (w0.drewN q)) := fun q => hb0.trans ((below_drewN (Below.refl w0.heap.size w0) q).mono hb0.size)
  by_cases hc : taC fs f args dir order = 0
  · have hdr : drC fs f args dir = 0 ∧ (0 ≤ order ∧ order < 13) := by
      have h := hc
      unfold taC at h
      by_cases h0 : drC fs f args dir = 0
      · rw [if_pos h0] at h
        by_cases h1 : 0 ≤ order ∧ order < 13
        · exact ⟨h0, h1⟩
        · rw [if_neg h1] at h; cases h
      · rw [if_neg h0] at h; exact absurd h h0
    obtain ⟨k1, k2, k3⟩ := plC_known (drC_known hdr.1).1
    have k4 := (drC_known hdr.1).2
    rw [hdr.1] at HS
    have hin : inB order 0 12 = true := by unfold inB; simp; omega
    rw [hin] at HIN
    have HL := Lib.hid (taL_yes hc)
    obtain ⟨j, rfl⟩ := Int.eq_ofNat_of_zero_le k2.1
    have ej : (j : Int).toNat = j := rfl
    rw [ej] at k3 k4
    obtain ⟨m, hm⟩ := Int.eq_ofNat_of_zero_le hdr.2.1
    have hj : j < fs.length := by omega
    have hm12 : m ≤ 12 := by omega
    subst hm
    have HL2 : Hid (taL fs (j : Int) args dir (m : Int) = lisE (sA (m + 1)) (evE (sA (m + 1)) fs 3001) (fs.getD j noFn).outs (lnT args dir (m + 1) args.length) 0 (fs.getD j noFn).outs.len) := HL.out
    have HT := fun (q : Nat) => Lib.hid (sTaylor (m : Int) (m + 1) (by omega) (by omega) (by omega) fs w.heap.size 0 ap capp j aa da ca cd args dir (w0.drewN q) c0 k1 hj hfl (P0.below (below_drewN (Below.refl _ _) q)) (A0.drewN q) (D0.drewN q) (by have := areB_ln k3; have := areB_ln k4; omega) (areB_nm k3) (areB_nm k4) (areB_ln k3))
    have HLE : Hid ((lisE (sA (m + 1)) (evE (sA (m + 1)) fs 3001) (fs.getD j noFn).outs (lnT args dir (m + 1) args.length) 0 (fs.getD j noFn).outs.len).c = 0 → (lisE (sA (m + 1)) (evE (sA (m + 1)) fs 3001) (fs.getD j noFn).outs (lnT args dir (m + 1) args.length) 0 (fs.getD j noFn).outs.len).l.length = (fs.getD j noFn).outs.len) := lisE_len _
    generalize lisE (sA (m + 1)) (evE (sA (m + 1)) fs 3001) (fs.getD j noFn).outs (lnT args dir (m + 1) args.length) 0 (fs.getD j noFn).outs.len = r at HT HL2 HLE
    generalize (fs.getD j noFn).outs.len = mo at *
    clear HL hc hdr k1 k2 k3 k4 hin hP hA hD P0 A0 D0 c0 ej
    go_enter Tryz.func32, Tryz.ntmps32
    go_wp2_with fail
    clear hw0
    refine HS.out.mono ?_; rintro e w1 ⟨rfl, q, rfl⟩
    have HTQ := HT q
    have HBQ := HQ.out q
    clear HT HS HQ
    go_wp2_with fail
    refine (HIN _).out.mono ?_; rintro e w1 ⟨rfl, rfl⟩
    go_wp2_with fail
    refine HTQ.out.mono ?_; rintro e w2 ⟨hb2, ⟨hcr, g, kg, L, br, rfl, hbr, hbL, hO⟩ | ⟨hcr, g, rfl⟩⟩
    · have hM : Mat w2 (some ⟨g, 0, none⟩) r.l := En.mat (hO.en hbL)
      have hlv : r.l.length = mo := HLE.out hcr
      have HRES : Hid (TaM w r (.returned (.tuple #[.slice (some ⟨g, 0, none⟩) mo kg, .int .i64 0])) w2) := ⟨some ⟨g, 0, none⟩, kg, by rw [taA_yes hcr, hlv, hcr], by rw [taA_yes hcr]; exact hM, HBQ.trans (hb2.mono HBQ.size)⟩
      clear HLE hM hO hlv hcr
      go_wp2_with fail
      go_ret2
      rw [HL2.out]
      exact HRES.out
    · have HRES : Hid (TaM w r (.returned (.tuple #[.slice (some ⟨g, 0, none⟩) 0 0, .int .i64 r.c])) w2) := TaM.fail hcr (HBQ.trans (hb2.mono HBQ.size))
      clear HLE hcr
      go_wp2_with fail
      go_ret2
      rw [HL2.out]
      exact HRES.out
  · have HL := Lib.hid (taL_no hc)
    have HNC := Lib.hid hc
    by_cases h1 : drC fs f args dir = 0
    · have h2 : ¬ (0 ≤ order ∧ order < 13) := fun h => hc (by unfold taC; rw [if_pos h1, if_pos h])
      have hcc : Hid (taC fs f args dir order = 2) := by show _ = _; unfold taC; rw [if_pos h1, if_neg h2]
      have hin : inB order 0 12 = false := by
        cases hb : inB order 0 12 with
        | false => rfl
        | true => exfalso; apply h2; unfold inB at hb; simp at hb; omega
      rw [hin] at HIN
      rw [h1] at HS
      clear hc h1 h2 hin hP hA hD P0 A0 D0 c0 HNC
      go_enter Tryz.func32, Tryz.ntmps32
      go_wp2_with fail
      clear hw0
      refine HS.out.mono ?_; rintro e w1 ⟨rfl, q, rfl⟩
      have HBQ := HQ.out q
      clear HS HQ
      go_wp2_with fail
      refine (HIN _).out.mono ?_; rintro e w1 ⟨rfl, rfl⟩
      have HRES : Hid (∀ W, Below w.heap.size w W → ∀ a, TaM w ⟨[], 0, 2⟩ (.returned (.tuple #[.slice a 0 0, .int .i64 2])) W) := fun W hW a => TaM.fail (show ¬ (2 : Int) = 0 by decide) hW
      have HBA := HBQ.alloc HBQ.size (.cells #[] 25)
      go_wp2_with fail
      go_ret2
      rw [HL.out, hcc.out]
      exact HRES.out _ HBA _
    · have hcc : Hid (taC fs f args dir order = drC fs f args dir) := by show _ = _; unfold taC; rw [if_neg h1]
      have hbf : (drC fs f args dir == 0) = false := by simp [h1]
      have hbf2 : (drC fs f args dir != 0) = true := by simp [h1]
      have HN1 := Lib.hid h1
      clear hc h1 hP hA hD P0 A0 D0 c0 HNC HIN
      generalize drC fs f args dir = pc at *
      go_enter Tryz.func32, Tryz.ntmps32
      go_wp2_with fail
      clear hw0
      refine HS.out.mono ?_; rintro e w1 ⟨rfl, q, rfl⟩
      have HBQ := HQ.out q
      clear HS HQ
      have HRES : Hid (∀ W, Below w.heap.size w W → ∀ a, TaM w ⟨[], 0, pc⟩ (.returned (.tuple #[.slice a 0 0, .int .i64 pc])) W) := fun W hW a => TaM.fail HN1.out hW
      have HBA := HBQ.alloc HBQ.size (.cells #[] 25)
      go_wp2_with fail
      go_ret2
      rw [HL.out, hcc.out]
      exact HRES.out _ HBA _

end Go.Proofs.YtldbhhocoolloaaGreat

namespace Go.Proofs.YtldbhhocoolloaaGreat
open Go.RowKit
set_option linter.unusedVariables false

theorem OwnA.outAt {L B B' : Nat} {w w' : World} {a : Option Addr} {cap : Nat} {l : List Int} (h : OwnA B' w a cap l) (ho : Out L B w w') (hB : B ≤ B') : OwnA B' w' a cap l := by
  by_cases hl : l = []
  · exact .inl hl
  · obtain ⟨g, rfl, hg⟩ := h.resolve_left hl
    have hb := hg.base
    have hblk := ho.block g hb.2 (by omega)
    obtain ⟨h1, h2⟩ := hg
    refine .inr ⟨g, rfl, h1, ?_⟩
    rcases h2 with ⟨e, _⟩ | ⟨g', cap', cur, hv, hg', hh, h3⟩
    · cases e
    · cases hv
      exact .inr ⟨g, cap, cur, rfl, hg', hblk.trans hh, h3⟩
theorem Out.below {L B : Nat} {w w' : World} (h : Out L B w w') (hL : L ≤ w.heap.size) : Below L w w' := ⟨h.os, h.tape, h.output, h.size, fun k hk => h.block k (by omega) (by omega)⟩
theorem Own.cap2 {L g cap : Nat} {w : World} {l : List Int} (h : Own L w g cap l) : cap ≤ 9223372036854775807 := (Sr.row_cap h).2

set_option maxRecDepth 100000 in
set_option maxHeartbeats 12800000 in
theorem wFnExactTaylorOf (v0 v1 v2 v3 v4 : Value) (w : World) (h0 : IsProg w v0) (h1 : IsI64 w v1) (h3 : IsI64s w v2) (h4 : IsI64s w v3) (h5 : IsI64 w v4) :
    Calls Tryz.prog 7 #[v0, v1, v2, v3, v4] w fun e w' => e = .returned (.bool true) ∧ Below w.heap.size w w' := by
  obtain ⟨a, cap, l, rfl, hP, hlen⟩ := h0
  obtain ⟨f, rfl, hf1, hf2⟩ := h1
  obtain ⟨aa, ca, args, rfl, hA, hrng, hal9⟩ := h3
  obtain ⟨da, cd, dir, rfl, hD, hrng2, hdl9⟩ := h4
  obtain ⟨order, rfl, ho1, ho2⟩ := h5
  clear hf1 hf2 hrng hrng2 ho1 ho2
  obtain ⟨w0, hw0⟩ : ∃ w0, w0 = w.alloc (.cells #[.slice a l.length cap] 24) := ⟨_, rfl⟩
  have hb0 : Below w.heap.size w w0 := by rw [hw0]; exact (Below.refl _ _).alloc (Nat.le_refl _) _
  have z0 : w0.heap.size = w.heap.size + 1 := by rw [hw0]; simp
  have c0 : w0.cell? ⟨w.heap.size, 0, none⟩ = some (.slice a l.length cap) := by rw [hw0]; simp [go_sem]
  have hP0 : Pat w0 0 w0.heap.size l a := (hP.below hb0).mono (Nat.le_refl _) hb0.size
  have hA0 := hA.below hb0 (Nat.le_refl _)
  have hD0 := hD.below hb0 (Nat.le_refl _)
  have hlm : l.length ≤ maxLen := hlen
  by_cases hbig : 1048576 < args.length
  · have hbi : (1048576 : Int) < (args.length : Int) := by omega
    clear hP hP0
    go_enter Tryz.func7, Tryz.ntmps7
    go_wp2_with fail
    rw [← hw0]
    go_ret
    exact ⟨rfl, hb0⟩
  have hal : args.length ≤ 1048576 := by omega
  have hbi : ¬ (1048576 : Int) < (args.length : Int) := by omega
  by_cases hbig2 : 1048576 < dir.length
  · have hbi2 : (1048576 : Int) < (dir.length : Int) := by omega
    clear hP hP0
    go_enter Tryz.func7, Tryz.ntmps7
    go_wp2_with fail
    rw [← hw0]
    go_ret
    exact ⟨rfl, hb0⟩
  have hdl : dir.length ≤ 1048576 := by omega
  have hbi2 : ¬ (1048576 : Int) < (dir.length : Int) := by omega
  have HZ := Lib.hid (szProgram l a cap 1048576 w0 hP0 hlm (by omega) (by omega))
  by_cases hs : ((pgSize l : Nat) : Int) ≤ 1048576
  · have hsz : pgSize l ≤ 1048576 := by omega
    rw [szv_t hs] at HZ
    have hy : 0 ≤ 1048576 - ((pgSize l : Nat) : Int) := by omega
    have hd : decide (1048576 - ((pgSize l : Nat) : Int) < 0) = false := decide_eq_false (by omega)
    have hll : l.length ≤ 1048576 := by unfold pgSize at hsz; omega
    generalize 1048576 - ((pgSize l : Nat) : Int) = lv at HZ hy hd
    go_enter Tryz.func7, Tryz.ntmps7
    go_wp2_with fail
    rw [← hw0]
    clear hw0 hs
    refine (HZ.out).mono ?_; rintro e w1 ⟨rfl, hb1⟩
    have c1 := (hb1.cell (p := ⟨w.heap.size, 0, none⟩) (by show w.heap.size < _; omega)).trans c0
    have z1 := hb1.size
    have hP1 := (hP0.below hb1).mono (Nat.le_refl _) hb1.size
    have hA1 := hA0.below hb1 (Nat.le_refl _)
    have hD1 := hD0.below hb1 (Nat.le_refl _)
    clear HZ
    go_wp2_with fail
    refine (toProgram l a cap _ hP1 hsz).mono ?_; rintro e w2 ⟨g2, rfl, hQ2, hb2⟩
    have c2 := (hb2.cell (p := ⟨w.heap.size, 0, none⟩) (by show w.heap.size < _; omega)).trans c1
    have z2 := hb2.size
    have hP2 := (hP1.below hb2).mono (Nat.le_refl _) hb2.size
    have hA2 := hA1.below hb2 (Nat.le_refl _)
    have hD2 := hD1.below hb2 (Nat.le_refl _)
    clear c1 hP1
    go_wp2_with fail
    refine (toInt64S aa ca args _ hA2 hal).mono ?_; rintro e wi ⟨gi, ci, rfl, oi, hbi2'⟩
    have ci2 := (hbi2'.cell (p := ⟨w.heap.size, 0, none⟩) (by show w.heap.size < _; omega)).trans c2
    have zi := hbi2'.size
    have hPi := (hP2.below hbi2').mono (Nat.le_refl _) hbi2'.size
    have hAi := hA2.below hbi2' (Nat.le_refl _)
    have hDi := hD2.below hbi2' (Nat.le_refl _)
    have hQi := ((hQ2.mono (Nat.zero_le _) (Nat.le_refl _)).below hbi2').mono (Nat.le_refl _) hbi2'.size
    clear c2 hP2 hQ2
    go_wp2_with fail
    refine (toInt64S da cd dir _ hDi hdl).mono ?_; rintro e wd ⟨gd, cdd, rfl, od, hbd⟩
    have cd2 := (hbd.cell (p := ⟨w.heap.size, 0, none⟩) (by show w.heap.size < _; omega)).trans ci2
    have zd := hbd.size
    have hPd := (hPi.below hbd).mono (Nat.le_refl _) hbd.size
    have hAd := hAi.below hbd (Nat.le_refl _)
    have hDd := hDi.below hbd (Nat.le_refl _)
    have hQd := (hQi.below hbd).mono (Nat.le_refl _) hbd.size
    have oid := oi.at.below hbd (Nat.le_refl _)
    clear ci2 hPi hQi
    go_wp2_with fail
    obtain ⟨R, hR⟩ : ∃ R, taL l f args dir order = R := ⟨_, rfl⟩
    obtain ⟨LS, hLS⟩ : ∃ LS, taA R = LS := ⟨_, rfl⟩
    obtain ⟨C, hC⟩ : ∃ C, R.c = C := ⟨_, rfl⟩
    have HIT := fun (aa : Option Addr) (ca : Nat) (da : Option Addr) (cd : Nat) (g : Nat) (W : World) (hP : Pat W 0 W.heap.size l (some ⟨g, 0, none⟩)) (hA : At W aa args) (h1 : args.length ≤ ca) (h2 : ca ≤ 9223372036854775807) (hD : At W da dir) => Lib.hid (show Calls Tryz.prog 33 #[.agg #[.slice (some ⟨g, 0, none⟩) l.length l.length], .int .i64 f, .slice aa args.length ca, .slice da dir.length cd, .int .i64 order] W (fun e w' => ∃ a ca, e = .returned (.tuple #[.slice a LS.length ca, .int .i64 C]) ∧ MoA w' W.heap.size a ca LS ∧ mSz LS ≤ 1048576 ∧ Below W.heap.size W w') from (Sr.iTaylorOf l (some ⟨g, 0, none⟩) l.length f aa da ca cd args dir order W hP hsz (Nat.le_refl _) hll hA hal h1 h2 hD hdl).mono (fun e w' ⟨a, ca, he, h1, h2, h3⟩ => ⟨a, ca, by rw [← hC, ← hLS, ← hR]; exact he, by rw [← hLS, ← hR]; exact h1, by rw [← hLS, ← hR]; exact h2, h3⟩))
    have HST := Lib.hid (show Calls Tryz.prog 32 #[.agg #[.slice (some ⟨g2, 0, none⟩) l.length l.length], .int .i64 f, .slice (some ⟨gi, 0, none⟩) args.length ci, .slice (some ⟨gd, 0, none⟩) dir.length cdd, .int .i64 order] wd (fun e w' => ∃ a ca, e = .returned (.tuple #[.slice a LS.length ca, .int .i64 C]) ∧ Mat w' a LS ∧ Below wd.heap.size wd w') from (sTaylorOf l _ l.length f _ _ ci cdd args dir order _ hQd hsz oid hal od.at hdl).mono (fun e w' ⟨a, ca, he, h1, h3⟩ => ⟨a, ca, by rw [← hC, ← hLS, ← hR]; exact he, by rw [← hLS, ← hR]; exact h1, h3⟩))
    clear hR hLS hC
    refine HST.out.mono ?_; rintro e w3 ⟨aw, cw, rfl, HMW, hb3⟩
    have c3 := (hb3.cell (p := ⟨w.heap.size, 0, none⟩) (by show w.heap.size < _; omega)).trans cd2
    have z3 := hb3.size
    have hP3 := (hPd.below hb3).mono (Nat.le_refl _) hb3.size
    have hA3 := hAd.below hb3 (Nat.le_refl _)
    have hD3 := hDd.below hb3 (Nat.le_refl _)
    have hbB : Below w.heap.size w w3 := (((((hb0.trans (hb1.mono (by omega))).trans (hb2.mono (by omega))).trans (hbi2'.mono (by omega))).trans (hbd.mono (by omega))).trans (hb3.mono (by omega)))
    clear cd2 hPd hQd oid oi od HST
    go_wp2_with fail
    refine (toProgramW l a cap _ hP3 hsz).mono ?_; rintro e w4 ⟨g4, rfl, hQ4, hb4⟩
    have c4 := (hb4.cell (p := ⟨w.heap.size, 0, none⟩) (by show w.heap.size < _; omega)).trans c3
    have z4 := hb4.size
    obtain ⟨w5, hw5⟩ : ∃ w5, w5 = w4.alloc (.cells #[.slice (some ⟨g4, 0, none⟩) l.length l.length] 31) := ⟨_, rfl⟩
    have hb5 : Below w4.heap.size w4 w5 := by rw [hw5]; exact (Below.refl _ _).alloc (Nat.le_refl _) _
    have z5 : w5.heap.size = w4.heap.size + 1 := by rw [hw5]; simp
    have c5 := (hb5.cell (p := ⟨w.heap.size, 0, none⟩) (by show w.heap.size < _; omega)).trans c4
    have x5 : w5.cell? ⟨w4.heap.size, 0, none⟩ = some (.slice (some ⟨g4, 0, none⟩) l.length l.length) := by rw [hw5]; simp [go_sem]
    have hQ5 := (hQ4.pat.below hb5).mono (Nat.zero_le _) hb5.size
    have HB5 : Below w3.heap.size w3 w5 := hb4.trans (hb5.mono hb4.size)
    have hS4 := hQ4.spt hsz
    have hgb := hS4.1
    have hA5 := hA3.below HB5 (Nat.le_refl _)
    have hD5 := hD3.below HB5 (Nat.le_refl _)
    clear hQ4
    have lw : w.heap.size < w4.heap.size := by omega
    go_wp2_with fail
    rw [← hw5]
    clear hw5 c4
    refine (toInt64S aa ca args _ hA5 hal).mono ?_; rintro e wx ⟨gx, cx, rfl, ox, hbx⟩
    have zx := hbx.size
    have HBx : Below w3.heap.size w3 wx := HB5.trans (hbx.mono HB5.size)
    have xx := (hbx.cell (p := ⟨w4.heap.size, 0, none⟩) (by show w4.heap.size < _; omega)).trans x5
    have hQx := (hQ5.below hbx).mono (Nat.le_refl _) hbx.size
    have hDx := hD5.below hbx (Nat.le_refl _)
    have H4x : Below w4.heap.size w4 wx := hb5.trans (hbx.mono hb5.size)
    have hox1 := ox.cap_le
    have hox2 := ox.cap2
    have oX : OwnA w5.heap.size wx (some ⟨gx, 0, none⟩) cx args := ox.a
    clear c5 x5 hQ5 hA5 hD5 ox
    go_wp2_with fail
    refine (toInt64S da cd dir _ hDx hdl).mono ?_; rintro e wy ⟨gy, cy, rfl, oy, hby⟩
    have zy := hby.size
    have HBy : Below w3.heap.size w3 wy := HBx.trans (hby.mono HBx.size)
    have H4y : Below w4.heap.size w4 wy := H4x.trans (hby.mono H4x.size)
    have xy := (hby.cell (p := ⟨w4.heap.size, 0, none⟩) (by show w4.heap.size < _; omega)).trans xx
    have hQy := (hQx.below hby).mono (Nat.le_refl _) hby.size
    have oXy := oX.below hby
    have oY : OwnA wx.heap.size wy (some ⟨gy, 0, none⟩) cy dir := oy.a
    have HXU : Hid (∀ g, blk (some ⟨gx, 0, none⟩) args = some g → g < wx.heap.size) := fun g hg => (oX.lt g hg).2
    have HYU : Hid (∀ g, blk (some ⟨gy, 0, none⟩) dir = some g → wx.heap.size ≤ g ∧ g < wy.heap.size) := fun g hg => oY.lt g hg
    clear xx hQx hDx oX oy
    go_wp2_with fail
    have HI6 := HIT _ _ _ cy _ _ hQy oXy.at hox1 hox2 oY.at
    refine HI6.out.mono ?_; rintro e w6 ⟨a6, c6, rfl, hM6, hsz6, hb6⟩
    have HSZ := Lib.hid hsz6
    have z6 := hb6.size
    have HB6 : Below w3.heap.size w3 w6 := HBy.trans (hb6.mono HBy.size)
    have H46 : Below w4.heap.size w4 w6 := H4y.trans (hb6.mono H4y.size)
    have oX6 := oXy.below hb6
    have oY6 := oY.below hb6
    have hW6 := HMW.below HB6 (Nat.le_refl _)
    have hQ6 := (hQy.below hb6).mono (Nat.le_refl _) hb6.size
    have x6 := (hb6.cell (p := ⟨w4.heap.size, 0, none⟩) (by show w4.heap.size < _; omega)).trans xy
    clear HI6 hsz6 hQy xy oXy oY
    go_wp2_with fail
    refine (eqMat a6 aw c6 cw LS _ hM6.mat hW6 HSZ.out).mono ?_; rintro e w7 ⟨rfl, hb7⟩
    have z7 := hb7.size
    have HB7 : Below w3.heap.size w3 w7 := HB6.trans (hb7.mono HB6.size)
    have H47 : Below w4.heap.size w4 w7 := H46.trans (hb7.mono H46.size)
    have hM7 := hM6.next hb7
    have oX7 := oX6.below hb7
    have oY7 := oY6.below hb7
    have c7 := (HB7.cell (p := ⟨w.heap.size, 0, none⟩) (by show w.heap.size < _; omega)).trans c3
    have x7 := (hb7.cell (p := ⟨w4.heap.size, 0, none⟩) (by show w4.heap.size < _; omega)).trans x6
    have hQ7 := (hQ6.below hb7).mono (Nat.le_refl _) hb7.size
    have hP7 := (hP3.below HB7).mono (Nat.le_refl _) HB7.size
    have hne2 : (C != C) = false := by simp
    have HT := fun (W : World) (hW : Below w7.heap.size w7 W) => Lib.hid (toProgram l a cap W ((hP7.below hW).mono (Nat.le_refl _) hW.size) hsz)
    clear hM6 hW6 hQ6 oX6 oY6 x6
    go_wp2_with fail
    have l1 : w.heap.size < w7.heap.size := by omega
    have l2 : w4.heap.size < w7.heap.size := by omega
    go_region_held3 (fun w' => w'.cell? ⟨w.heap.size, 0, none⟩ = some (.slice a l.length cap) ∧ w'.cell? ⟨w4.heap.size, 0, none⟩ = some (.slice (some ⟨g4, 0, none⟩) l.length l.length))
      (first
        | exact ⟨c7, x7⟩
        | exact ⟨(hb9.cell (p := ⟨w.heap.size, 0, none⟩) l1).trans c7, (hb9.cell (p := ⟨w4.heap.size, 0, none⟩) l2).trans x7⟩
        | exact ⟨(hb8.cell (p := ⟨w.heap.size, 0, none⟩) l1).trans c7, (hb8.cell (p := ⟨w4.heap.size, 0, none⟩) l2).trans x7⟩
        | go_keep)
      (first
        | (go_at_call 13; refine (HT _ (below_drew (Below.refl _ _))).out.mono ?_; rintro e w8 ⟨g8, rfl, hQ8, hb8'⟩; have hb8 : Below w7.heap.size w7 w8 := ⟨hb8'.os, hb8'.tape, hb8'.output, hb8'.size, hb8'.block⟩)
        | (go_at_call 17; refine (eqProgram l _ _ _ _ _ ((hQ7.below hb8).mono (Nat.le_refl _) hb8.size) (hQ8.mono (Nat.zero_le _) (Nat.le_refl _)) hlm).mono ?_; rintro e w9 ⟨rfl, hb9'⟩; have hb9 : Below w7.heap.size w7 w9 := hb8.trans (hb9'.mono hb8.size)))
    all_goals
      have HB9 : Below w3.heap.size w3 w9 := HB7.trans (hb9.mono HB7.size)
      have H49 : Below w4.heap.size w4 w9 := H47.trans (hb9.mono H47.size)
      have hM9 := hM7.next hb9
      have oX9 := oX7.below hb9
      have oY9 := oY7.below hb9
      have x9 := (hb9.cell (p := ⟨w4.heap.size, 0, none⟩) l2).trans x7
      clear HT hQ7 hQ8 hP7 c7 x7 hM7 oX7 oY7 hb8' hb9' c0 hP0 hP
      go_wp2_with fail
      refine (toInt64S aa ca args _ (hA3.below HB9 (Nat.le_refl _)) hal).mono ?_; rintro e wp ⟨gp, cp, rfl, op, hbp⟩
      have HBp : Below w3.heap.size w3 wp := HB9.trans (hbp.mono HB9.size)
      have H4p : Below w4.heap.size w4 wp := H49.trans (hbp.mono H49.size)
      have hMp := hM9.next hbp
      have oXp := oX9.below hbp
      have oYp := oY9.below hbp
      clear hM9 oX9 oY9
      go_wp2_with fail
      refine (eqInt64S _ _ _ _ args _ oXp.at op.at (by omega)).mono ?_; rintro e wq ⟨rfl, hbq⟩
      have HBq : Below w3.heap.size w3 wq := HBp.trans (hbq.mono HBp.size)
      have H4q : Below w4.heap.size w4 wq := H4p.trans (hbq.mono H4p.size)
      have hMq := hMp.next hbq
      have oXq := oXp.below hbq
      have oYq := oYp.below hbq
      clear hMp oXp oYp op
      go_wp2_with fail
      refine (toInt64S da cd dir _ (hD3.below HBq (Nat.le_refl _)) hdl).mono ?_; rintro e wr ⟨gr, cr, rfl, or', hbr⟩
      have HBr : Below w3.heap.size w3 wr := HBq.trans (hbr.mono HBq.size)
      have H4r : Below w4.heap.size w4 wr := H4q.trans (hbr.mono H4q.size)
      have hMr := hMq.next hbr
      have oXr := oXq.below hbr
      have oYr := oYq.below hbr
      clear hMq oXq oYq
      go_wp2_with fail
      refine (eqInt64S _ _ _ _ dir _ oYr.at or'.at (by omega)).mono ?_; rintro e wz ⟨rfl, hbz⟩
      have HBz : Below w3.heap.size w3 wz := HBr.trans (hbz.mono HBr.size)
      have H4z : Below w4.heap.size w4 wz := H4r.trans (hbz.mono H4r.size)
      have hMz := hMr.next hbz
      have oXz := oXr.below hbz
      have oYz := oYr.below hbz
      have zz := H4z.size
      have cz := (HBz.cell (p := ⟨w.heap.size, 0, none⟩) (by show w.heap.size < _; omega)).trans c3
      have xz := (((hbp.trans (hbq.mono hbp.size)).trans (hbr.mono (Nat.le_trans hbp.size hbq.size))).trans (hbz.mono (Nat.le_trans (Nat.le_trans hbp.size hbq.size) hbr.size)) |>.cell (p := ⟨w4.heap.size, 0, none⟩) (by show w4.heap.size < _; have := hb9.size; omega)).trans x9
      have hM0 : Mp w3.heap.size w4.heap.size g4 w4 wz := Mp.of_below H4z (Nat.le_refl _) hgb.2
      have hSz : Spt wz w3.heap.size w4.heap.size l g4 := by
        obtain ⟨h1, h2, h3⟩ := hS4
        refine ⟨h1, fun o => (hM0.frz g4 o (by omega)).trans (h2 o), fun i hi => ?_⟩
        obtain ⟨q0, b', cap', q1, q2, q3, q4⟩ := h3 i hi
        exact ⟨q0, b', cap', hM0.strs _ q1, hM0.ints _ q2, hM0.outs _ _ q3, hM0.trees q4⟩
      have HMk := Lib.hid (markProgram w3.heap.size w4.heap.size l g4 l.length 1 wz hSz zz hsz (by omega))
      clear or' hMr oXr oYr x9 hS4 hSz hM0
      go_wp2_with fail
      refine (HMk.out).mono ?_; rintro e w10 ⟨x, rfl, hxm, hMpp⟩
      have HO := hMpp.out
      have z10 := HO.size
      have HB10 : Below w3.heap.size w3 w10 := HBz.trans (HO.below HBz.size)
      have hM10 := hMz.keep (S := fun b => w3.heap.size ≤ b ∧ b < w4.heap.size) ⟨HO.os, HO.tape, HO.output, HO.size, HO.block⟩ (fun b hb => by omega)
      have oX10 := oXz.outAt HO (by omega)
      have oY10 := oYz.outAt HO (by omega)
      have c10 := (HB10.cell (p := ⟨w.heap.size, 0, none⟩) (by show w.heap.size < _; omega)).trans c3
      clear HMk hMpp hMz oXz oYz cz xz
      go_wp2_with fail
      refine (markAt _ _ _ args x x _ (by omega) oX10 (by omega) (by omega)).mono ?_; rintro e w11 ⟨rfl, hX11, hg11⟩
      have HB11 := HB10.grown hg11 HB10.size (fun g hg => Nat.le_trans (by omega) (oX10.lt g hg).1)
      have hM11 := hM10.keep (S := fun b => blk (some ⟨gx, 0, none⟩) args = some b) ⟨hg11.os, hg11.tape, hg11.output, hg11.size, fun i hi hn => hg11.block i hi (fun e => hn e.symm)⟩ (fun b hb => by have := HXU.out b hb; omega)
      have oY11 := oY10.keptBy hg11 (fun g h1 h2 => by have e1 := HYU.out g h1; have e2 := HXU.out g h2; omega)
      clear hM10 oX10 oY10 c10 hX11 hg11
      go_wp2_with fail
      refine (markAt _ _ _ dir (x + args.length) ((x : Int) + (args.length : Int)) _ (by omega) oY11 (by omega) (by omega)).mono ?_; rintro e w12 ⟨rfl, hY12, hg12⟩
      have HB12 := HB11.grown hg12 HB11.size (fun g hg => Nat.le_trans (by omega) (oY11.lt g hg).1)
      have hM12 := hM11.keep (S := fun b => blk (some ⟨gy, 0, none⟩) dir = some b) ⟨hg12.os, hg12.tape, hg12.output, hg12.size, fun i hi hn => hg12.block i hi (fun e => hn e.symm)⟩ (fun b hb => by have := HYU.out b hb; omega)
      have c12 := (HB12.cell (p := ⟨w.heap.size, 0, none⟩) (by show w.heap.size < _; omega)).trans c3
      have hx0 : ¬ (x : Int) + (args.length : Int) + (dir.length : Int) < 0 := by omega
      clear hM11 oY11 hY12 hg12 HXU HYU
      go_wp2_with fail
      refine (eqMat a6 aw c6 cw LS _ hM12.mat (HMW.below HB12 (Nat.le_refl _)) HSZ.out).mono ?_; rintro e w13 ⟨rfl, hb13⟩
      have HB13 : Below w3.heap.size w3 w13 := HB12.trans (hb13.mono HB12.size)
      have hM13 := hM12.next hb13
      have c13 := (HB13.cell (p := ⟨w.heap.size, 0, none⟩) (by show w.heap.size < _; omega)).trans c3
      clear hM12 c12
      go_wp2_with fail
      refine (markMoA hM13 1 1 (by omega) HSZ.out (by omega)).mono ?_; rintro e w14 ⟨rfl, hM14, hk14⟩
      have HB14 : Below w3.heap.size w3 w14 := HB13.trans (b := w13) ⟨hk14.os, hk14.tape, hk14.output, hk14.size, fun q hq => hk14.block q (Nat.lt_of_lt_of_le hq HB13.size) (by omega)⟩
      have c14 := (HB14.cell (p := ⟨w.heap.size, 0, none⟩) (by show w.heap.size < _; omega)).trans c3
      have hq0 : ¬ (1 : Int) + (lenK LS LS.length : Int) < 0 := by omega
      clear hM13 c13
      go_wp2_with fail
      refine (heldMat a6 LS 1 1 c6 _ (by omega) hM14.mat HSZ.out (by omega)).mono ?_; rintro e w' ⟨rfl, rfl⟩
      have hP14 := (hP3.below HB14).mono (Nat.le_refl _) HB14.size
      go_wp2_with fail
      refine (toProgram l a cap _ hP14 hsz).mono ?_; rintro e w15 ⟨g15, rfl, hQ15, hb15⟩
      have HB15 : Below w3.heap.size w3 w15 := HB14.trans (hb15.mono HB14.size)
      have hM15 := hM14.next hb15
      clear hM14 c14 hP14
      go_wp2_with fail
      refine (toInt64S aa ca args _ (hA3.below HB15 (Nat.le_refl _)) hal).mono ?_; rintro e w16 ⟨g16, c16, rfl, o16, hb16⟩
      have HB16 : Below w3.heap.size w3 w16 := HB15.trans (hb16.mono HB15.size)
      have hM16 := hM15.next hb16
      have hQ16 := ((hQ15.mono (Nat.zero_le _) (Nat.le_refl _)).below hb16).mono (Nat.le_refl _) hb16.size
      have ho1 := o16.cap_le
      have ho2 := o16.cap2
      have ho3 := o16.at
      clear hM15 hQ15 o16
      go_wp2_with fail
      refine (toInt64S da cd dir _ (hD3.below HB16 (Nat.le_refl _)) hdl).mono ?_; rintro e w17 ⟨g17, c17, rfl, o17, hb17⟩
      have HB17 : Below w3.heap.size w3 w17 := HB16.trans (hb17.mono HB16.size)
      have hM17 := hM16.next hb17
      have hQ17 := (hQ16.below hb17).mono (Nat.le_refl _) hb17.size
      have HI17 := HIT _ _ _ c17 _ _ hQ17 (ho3.below hb17 (Nat.le_refl _)) ho1 ho2 o17.at
      clear hM16 hQ16 hQ17 ho3 o17 HIT
      go_wp2_with fail
      refine HI17.out.mono ?_; rintro e w18 ⟨a18, c18, rfl, hM18, _, hb18⟩
      have HB18 : Below w3.heap.size w3 w18 := HB17.trans (hb18.mono HB17.size)
      have hM18' := hM17.next hb18
      clear hM17 HI17
      go_wp2_with fail
      refine (eqMat a18 aw c18 cw LS _ hM18.mat (HMW.below HB18 (Nat.le_refl _)) HSZ.out).mono ?_; rintro e w19 ⟨rfl, hb19⟩
      have HB19 : Below w3.heap.size w3 w19 := HB18.trans (hb19.mono HB18.size)
      have hM19 := hM18'.next hb19
      clear hM18 hM18'
      go_wp2_with fail
      refine (heldMat a6 LS 1 1 c6 _ (by omega) hM19.mat HSZ.out (by omega)).mono ?_; rintro e w' ⟨rfl, rfl⟩
      go_wp2_with fail
      go_ret
      exact ⟨rfl, hbB.trans (HB19.mono hbB.size)⟩
  · rw [szv_f hs] at HZ
    go_enter Tryz.func7, Tryz.ntmps7
    go_wp2_with fail
    rw [← hw0]
    clear hw0 hs
    refine (HZ.out).mono ?_; rintro e w1 ⟨rfl, hb1⟩
    go_wp2_with fail
    go_ret
    exact ⟨rfl, hb0.trans (hb1.mono (by omega))⟩

end Go.Proofs.YtldbhhocoolloaaGreat
