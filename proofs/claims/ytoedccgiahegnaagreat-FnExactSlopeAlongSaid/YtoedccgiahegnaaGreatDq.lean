/- SlopeAlong by the program. -/
import Derived.Test.YtoedccgiahegnaaGreatDp
import Derived.Test.YtoedccgiahegnaaGreatUa
namespace Go.Proofs.YtoedccgiahegnaaGreat
open Go.RowKit
set_option linter.unusedVariables false

/-- the point on the line, so many steps on -/
def argI (args dir : List Int) : Nat → List Int
  | 0 => args
  | i + 1 => addl (argI args dir i) dir
theorem argI_len (args dir : List Int) : ∀ i, (argI args dir i).length = args.length
  | 0 => rfl
  | i + 1 => by rw [argI, addl_len, argI_len args dir i]
theorem argI_nums {args dir : List Int} (h : Nums args) : ∀ i, Nums (argI args dir i)
  | 0 => h
  | i + 1 => Sr.addl_nums _ _
/-- the slopes of an output at so many points -/
def slS (fs : List Fn) (j pick : Nat) (args dir : List Int) : Nat → Rl Int
  | 0 => ⟨[], 0, 0⟩
  | i + 1 => if (slS fs j pick args dir i).c = 0 then (if (alL fs j (argI args dir i) dir).c = 0 then ⟨(slS fs j pick args dir i).l ++ [((alL fs j (argI args dir i) dir).l.getD pick (0, 0)).2], 0, 0⟩ else ⟨[], 0, (alL fs j (argI args dir i) dir).c⟩) else slS fs j pick args dir i
theorem slS_go {fs : List Fn} {j pick : Nat} {args dir : List Int} {i : Nat} (h : (slS fs j pick args dir i).c = 0) (h2 : (alL fs j (argI args dir i) dir).c = 0) : slS fs j pick args dir (i + 1) = ⟨(slS fs j pick args dir i).l ++ [((alL fs j (argI args dir i) dir).l.getD pick (0, 0)).2], 0, 0⟩ := by
  rw [slS, if_pos h, if_pos h2]
theorem slS_bad {fs : List Fn} {j pick : Nat} {args dir : List Int} {i : Nat} (h : (slS fs j pick args dir i).c = 0) (h2 : ¬ (alL fs j (argI args dir i) dir).c = 0) : ∀ k, slS fs j pick args dir (i + 1 + k) = ⟨[], 0, (alL fs j (argI args dir i) dir).c⟩
  | 0 => by rw [Nat.add_zero, slS, if_pos h, if_neg h2]
  | k + 1 => by
    have ih := slS_bad h h2 k
    rw [← Nat.add_assoc, slS, ih, if_neg h2]
theorem slS_len {fs : List Fn} {j pick : Nat} {args dir : List Int} : ∀ {i : Nat}, (slS fs j pick args dir i).c = 0 → (slS fs j pick args dir i).l.length = i
  | 0, _ => rfl
  | i + 1, h => by
    by_cases h1 : (slS fs j pick args dir i).c = 0
    · by_cases h2 : (alL fs j (argI args dir i) dir).c = 0
      · rw [slS_go h1 h2]; simp [slS_len h1]
      · rw [slS, if_pos h1, if_neg h2] at h; exact absurd h h2
    · rw [slS, if_neg h1] at h; exact absurd h h1
/-- the code for a place, an output, a direction and a count -/
def slC (fs : List Fn) (f pick : Int) (args dir : List Int) (count : Int) : Int := if drC fs f args dir = 0 then (if (0 ≤ pick ∧ pick < ((fs.getD f.toNat noFn).outs.len : Int)) ∧ (0 ≤ count ∧ count < 13) then 0 else 2) else drC fs f args dir
def slL (fs : List Fn) (f pick : Int) (args dir : List Int) (count : Int) : Rl Int := if slC fs f pick args dir count = 0 then slS fs f.toNat pick.toNat args dir count.toNat else ⟨[], 0, slC fs f pick args dir count⟩
theorem slL_no {fs : List Fn} {f pick : Int} {args dir : List Int} {count : Int} (h : ¬ slC fs f pick args dir count = 0) : slL fs f pick args dir count = ⟨[], 0, slC fs f pick args dir count⟩ := if_neg h
theorem slL_yes {fs : List Fn} {f pick : Int} {args dir : List Int} {count : Int} (h : slC fs f pick args dir count = 0) : slL fs f pick args dir count = slS fs f.toNat pick.toNat args dir count.toNat := if_pos h
theorem LcRes.no {w w' : World} {c : Int} (a : Option Addr) (ca : Nat) (hb : Below w.heap.size w w') : LcRes w [] c (.returned (.tuple #[.slice a 0 ca, .int .i64 c])) w' := ⟨a, ca, rfl, .inl rfl, hb⟩
/-- where a place keeps its fields -/
structure PlAt (w : World) (B : Nat) (ap : Option Addr) (fl capp : Nat) (nm : ByteArray) (pa : Int) (af : Option Addr) (mo cf : Nat) (aa : Option Addr) (al ca : Nat) : Prop where
  c0 : w.cell? ⟨B, 0, none⟩ = some ofN
  c1 : w.cell? ⟨B, 1, none⟩ = some (.slice ap fl capp)
  c2 : w.cell? ⟨B, 2, none⟩ = some (.string nm)
  c3 : w.cell? ⟨B, 3, none⟩ = some (.int .i64 pa)
  c4 : w.cell? ⟨B, 4, none⟩ = some (.slice af mo cf)
  c5 : w.cell? ⟨B, 5, none⟩ = some (.slice aa al ca)
  fz : w.frozen? ⟨B, 5, none⟩ = false
theorem PlAt.keep {S : Nat → Prop} {w w' : World} {B : Nat} {ap : Option Addr} {fl capp : Nat} {nm : ByteArray} {pa : Int} {af : Option Addr} {mo cf : Nat} {aa : Option Addr} {al ca : Nat} (h : PlAt w B ap fl capp nm pa af mo cf aa al ca) (k : Kp S w w') (hS : ¬ S B) : PlAt w' B ap fl capp nm pa af mo cf aa al ca :=
  ⟨k.cell h.c0 hS, k.cell h.c1 hS, k.cell h.c2 hS, k.cell h.c3 hS, k.cell h.c4 hS, k.cell h.c5 hS, (k.fz (cell_lt h.c0) hS).trans h.fz⟩
theorem PlAt.next {w w' : World} {B : Nat} {ap : Option Addr} {fl capp : Nat} {nm : ByteArray} {pa : Int} {af : Option Addr} {mo cf : Nat} {aa : Option Addr} {al ca : Nat} (h : PlAt w B ap fl capp nm pa af mo cf aa al ca) (k : Below w.heap.size w w') : PlAt w' B ap fl capp nm pa af mo cf aa al ca := h.keep (S := fun _ => False) (Kp.of_below k) (fun h => h)
theorem PlAt.put {w : World} {B : Nat} {ap : Option Addr} {fl capp : Nat} {nm : ByteArray} {pa : Int} {af : Option Addr} {mo cf : Nat} {aa : Option Addr} {al ca : Nat} (h : PlAt w B ap fl capp nm pa af mo cf aa al ca) (a2 : Option Addr) (l2 c2 : Nat) : PlAt (w.setCell ⟨B, 5, none⟩ (.slice a2 l2 c2)) B ap fl capp nm pa af mo cf a2 l2 c2 :=
  ⟨(World.cell?_setCell_other _ _ _ _ (by simp)).trans h.c0, (World.cell?_setCell_other _ _ _ _ (by simp)).trans h.c1, (World.cell?_setCell_other _ _ _ _ (by simp)).trans h.c2, (World.cell?_setCell_other _ _ _ _ (by simp)).trans h.c3, (World.cell?_setCell_other _ _ _ _ (by simp)).trans h.c4, World.cell?_setCell_same _ _ _ h.c5, (World.frozen?_setCell _ _ _ _).trans h.fz⟩
theorem Own.capM {L g cap : Nat} {w : World} {l : List Int} (h : Own L w g cap l) : cap ≤ 9223372036854775807 := by
  rcases h.2 with ⟨h1, _⟩ | ⟨g', cap', cur, hv, _, _, hc, hm, _⟩
  · cases h1
  · cases hv; unfold maxLen at hm; omega
/-- a list that lies elsewhere than in the blocks S -/
theorem At.keptS {S : Nat → Prop} {w w' : World} {a : Option Addr} {l : List Int} (h : At w a l) (k : Kp S w w') (hn : ∀ b, blk a l = some b → ¬ S b) : At w' a l := by
  by_cases hl : l = []
  · exact .inl hl
  · obtain ⟨b, off, rfl, hb, hc⟩ := h.resolve_left hl
    have hS : ¬ S b := hn b (by simp [blk, hl])
    exact .inr ⟨b, off, rfl, Nat.lt_of_lt_of_le hb k.size, fun i hi => k.cell (hc i hi) hS⟩

set_option maxRecDepth 100000 in
set_option maxHeartbeats 12800000 in
theorem iSlope (fs : List Fn) (ap : Option Addr) (capp : Nat) (f pick : Int) (aa da : Option Addr) (ca cd : Nat) (args dir : List Int) (count : Int) (w : World) (hP : Pat w 0 w.heap.size fs ap) (hsz : pgSize fs ≤ 1048576) (hcap : fs.length ≤ capp) (hcm : capp ≤ 1048576) (hA : At w aa args) (hal : args.length ≤ 1048576) (hca : args.length ≤ ca) (hca2 : ca ≤ 9223372036854775807) (hD : At w da dir) (hdl : dir.length ≤ 1048576) :
    Calls Tryz.prog 25 #[.agg #[.slice ap fs.length capp], .int .i64 f, .int .i64 pick, .slice aa args.length ca, .slice da dir.length cd, .int .i64 count] w (LcRes w (slL fs f pick args dir count).l (slL fs f pick args dir count).c) := by
  have hfl : fs.length ≤ 1048576 := by unfold pgSize at hsz; omega
  obtain ⟨w0, hw0⟩ : ∃ w0, w0 = w.alloc (.cells #[.slice ap fs.length capp] 31) := ⟨_, rfl⟩
  have hb0 : Below w.heap.size w w0 := by rw [hw0]; exact (Below.refl _ _).alloc (Nat.le_refl _) _
  have c0 : w0.cell? ⟨w.heap.size, 0, none⟩ = some (.slice ap fs.length capp) := by rw [hw0]; simp [go_sem]
  have P0 := (hP.below hb0).mono (Nat.le_refl _) hb0.size
  have A0 := hA.below hb0 (Nat.le_refl _)
  have HF := Lib.hid (iPlaceOf fs ap capp f aa ca args w0 P0 hsz hcap hcm A0 hal)
  have HP := Lib.hid P0
  have HA := Lib.hid A0
  have HD := Lib.hid (hD.below hb0 (Nat.le_refl _))
  clear hP hA P0 A0 hD
  go_enter Tryz.func25, Tryz.ntmps25
  go_wp2_with fail
  rw [← hw0]
  clear hw0
  refine HF.out.mono ?_; rintro e w1 ⟨hb1, ⟨hn, rfl⟩ | ⟨hy, hfa, hab, af, cf, rfl, hFo⟩⟩
  · have hB1 := hb0.trans (hb1.mono hb0.size)
    have hbf : (plC fs f args != 0) = true := by simp [hn]
    have hdr : drC fs f args dir = plC fs f args := if_neg hn
    have hhd : slC fs f pick args dir count = plC fs f args := by unfold slC; rw [hdr, if_neg hn]
    have HX : Hid (slL fs f pick args dir count = ⟨[], 0, plC fs f args⟩) := by show _ = _; rw [slL_no (by rw [hhd]; exact hn), hhd]
    have hs1 := hB1.size
    clear HF HP HA HD hn hdr hhd
    generalize plC fs f args = pc at *
    go_wp2_with fail
    go_ret2
    rw [HX.out]
    exact LcRes.no _ _ (hB1.alloc hs1 _)
  · have hB1 := hb0.trans (hb1.mono hb0.size)
    obtain ⟨hp1, hf1, hf2⟩ := hfa
    obtain ⟨j, rfl⟩ := Int.eq_ofNat_of_zero_le hf1
    have ej : (j : Int).toNat = j := rfl
    rw [ej] at hab hFo ⊢
    have hj : j < fs.length := by omega
    have hln := areB_ln hab
    have hnm := areB_nm hab
    have hs1 := hb1.size
    obtain ⟨w2, hw2⟩ : ∃ w2, w2 = w1.alloc (.cells #[ofN, .slice ap fs.length capp, .string (fs.getD j noFn).name, .int .i64 (fs.getD j noFn).params, .slice af (fs.getD j noFn).outs.len cf, .slice aa args.length ca] 67) := ⟨_, rfl⟩
    have b2 : Below w1.heap.size w1 w2 := by rw [hw2]; exact (Below.refl _ _).alloc (Nat.le_refl _) _
    have p0 : w2.cell? ⟨w1.heap.size, 0, none⟩ = some (ofN) := by rw [hw2]; simp [go_sem]
    have p1 : w2.cell? ⟨w1.heap.size, 1, none⟩ = some (.slice ap fs.length capp) := by rw [hw2]; simp [go_sem]
    have p2 : w2.cell? ⟨w1.heap.size, 2, none⟩ = some (.string (fs.getD j noFn).name) := by rw [hw2]; simp [go_sem]
    have p3 : w2.cell? ⟨w1.heap.size, 3, none⟩ = some (.int .i64 (fs.getD j noFn).params) := by rw [hw2]; simp [go_sem]
    have p4 : w2.cell? ⟨w1.heap.size, 4, none⟩ = some (.slice af (fs.getD j noFn).outs.len cf) := by rw [hw2]; simp [go_sem]
    have p5 : w2.cell? ⟨w1.heap.size, 5, none⟩ = some (.slice aa args.length ca) := by rw [hw2]; simp [go_sem]
    have hb12 := hb1.trans (b2.mono hs1)
    have hB2 := hB1.trans (b2.mono hB1.size)
    have pz : w2.frozen? ⟨w1.heap.size, 5, none⟩ = false := by rw [hw2]; simp [go_sem]
    have hDR : Hid (drC fs (j : Int) args dir = if areB dir (fs.getD j noFn).params = true then 0 else 2) := if_pos hy
    have HHD : Hid (slC fs (j : Int) pick args dir count = if areB dir (fs.getD j noFn).params = true ∧ (0 ≤ pick ∧ pick < ((fs.getD j noFn).outs.len : Int)) ∧ (0 ≤ count ∧ count < 13) then 0 else 2) := by
      show _ = _
      unfold slC
      rw [hDR.out, ej]
      by_cases h1 : areB dir (fs.getD j noFn).params = true
      · rw [if_pos h1, if_pos rfl]
        by_cases h2 : (0 ≤ pick ∧ pick < ((fs.getD j noFn).outs.len : Int)) ∧ (0 ≤ count ∧ count < 13)
        · rw [if_pos h2, if_pos ⟨h1, h2⟩]
        · rw [if_neg h2, if_neg (fun h => h2 h.2)]
      · rw [if_neg h1, if_neg (by decide), if_neg (fun h => h1 h.1)]
    have HBAD : Hid (¬ (areB dir (fs.getD j noFn).params = true ∧ (0 ≤ pick ∧ pick < ((fs.getD j noFn).outs.len : Int)) ∧ (0 ≤ count ∧ count < 13)) → slL fs (j : Int) pick args dir count = ⟨[], 0, 2⟩) := fun h => by
      have e : slC fs (j : Int) pick args dir count = 2 := by rw [HHD.out, if_neg h]
      rw [slL_no (by rw [e]; decide), e]
    have HGOOD : Hid (∀ m pk : Nat, count = (m : Int) → pick = (pk : Int) → (areB dir (fs.getD j noFn).params = true ∧ (0 ≤ pick ∧ pick < ((fs.getD j noFn).outs.len : Int)) ∧ (0 ≤ count ∧ count < 13)) → slL fs (j : Int) pick args dir count = slS fs j pk args dir m) := by
      show ∀ m pk : Nat, _
      intro m pk hm hpk h
      rw [slL_yes (by rw [HHD.out, if_pos h]), hm, hpk]
      rfl
    have HO := fun W => Lib.hid (pHasOut pick ap fs.length capp (fs.getD j noFn).name (fs.getD j noFn).params af (fs.getD j noFn).outs.len cf aa args.length ca W)
    have HDI := fun (W : World) (hW : Below w2.heap.size w2 W) => Lib.hid (pHasDir da cd dir ap fs.length capp (fs.getD j noFn).name (fs.getD j noFn).params af (fs.getD j noFn).outs.len cf aa args.length ca W ((HD.out.below hb12 (Nat.le_refl _)).below hW (Nat.le_refl _)) hdl)
    have HU := fun W => Lib.hid (pUpTo count W)
    have HCO := fun (W : World) (hW : Below w0.heap.size w0 W) (i : Nat) (ai : Option Addr) (ci : Nat) (hi : At W ai (argI args dir i)) (h1 : args.length ≤ ci) (h2 : ci ≤ 9223372036854775807) (hd : areB dir (fs.getD j noFn).params = true) => Lib.hid (show Calls Tryz.prog 47 #[.agg #[ofN, .slice ap fs.length capp, .string (fs.getD j noFn).name, .int .i64 (fs.getD j noFn).params, .slice af (fs.getD j noFn).outs.len cf, .slice ai args.length ci], .slice da dir.length cd] W (DrRes W (alL fs j (argI args dir i) dir)) from by
      have hdl2 : dir.length = args.length := by have := areB_ln hd; omega
      rw [hdl2]
      exact iAlong fs ap capp j af cf ai da ci cd args.length _ dir W hp1 hj hfl ((HP.out.below hW).mono (Nat.le_refl _) hW.size) ((hFo.agree (fun i _ h2 => hW.block i h2)).mono (Nat.le_refl _) hW.size) hi (argI_nums hnm i) (HD.out.below hW (Nat.le_refl _)) (areB_nm hd) (by rw [argI_len]; exact hln) (argI_len _ _ _) hdl2 h1 h2)
    have HEL := fun (W : World) (hW : Below w0.heap.size w0 W) (i : Nat) (ai : Option Addr) (ci : Nat) (hi : At W ai (argI args dir i)) (hd : areB dir (fs.getD j noFn).params = true) => Lib.hid (show Calls Tryz.prog 57 #[.slice ai args.length ci, .slice da dir.length cd, .func (.func 58) #[] #[]] W (fun e w' => ∃ g cap, e = .returned (.slice (some ⟨g, 0, none⟩) args.length cap) ∧ Own W.heap.size w' g cap (argI args dir (i + 1)) ∧ Below W.heap.size W w') from by
      have hdl2 : dir.length = (argI args dir i).length := by have := areB_ln hd; rw [argI_len]; omega
      have h := (Sr.iElemPlus ai da ci cd (argI args dir i) dir W hi (HD.out.below hW (Nat.le_refl _)) (argI_nums hnm i) (areB_nm hd) (Lib.hid hdl2) (by rw [argI_len]; exact hal))
      rw [argI_len] at h
      refine h.mono ?_
      rintro e w' ⟨g, cap, rfl, h1, h2⟩
      exact ⟨g, cap, by rw [addl_len, argI_len], h1, h2⟩)
    have HLA : Hid (∀ i, (alL fs j (argI args dir i) dir).c = 0 → (alL fs j (argI args dir i) dir).l.length = (fs.getD j noFn).outs.len) := fun i hc => lisE_len _ hc
    have HA0 := HA
    clear HF HP HA HD HHD hDR hFo hab hln hnm hy hp1 hf1 hf2
    obtain ⟨R, hR⟩ : ∃ R, slL fs (j : Int) pick args dir count = R := ⟨_, rfl⟩
    rw [hR] at HBAD HGOOD
    have HRQ := Lib.hid hR
    clear hR
    generalize (fs.getD j noFn).name = nm at *
    generalize (fs.getD j noFn).params = pa at *
    generalize (fs.getD j noFn).outs.len = mo at *
    go_wp2_with fail
    rw [← hw2]
    clear hw2
    have HO2 := HO w2
    clear HO
    refine HO2.out.mono ?_; rintro e w3 ⟨rfl, b3⟩
    clear HO2
    replace pz := (b3.frozen (p := ⟨w1.heap.size, 5, none⟩) (cell_lt p0)).trans pz
    replace p0 := (b3.cell (p := ⟨w1.heap.size, 0, none⟩) (cell_lt p0)).trans p0
    replace p1 := (b3.cell (p := ⟨w1.heap.size, 1, none⟩) (cell_lt p1)).trans p1
    replace p2 := (b3.cell (p := ⟨w1.heap.size, 2, none⟩) (cell_lt p2)).trans p2
    replace p3 := (b3.cell (p := ⟨w1.heap.size, 3, none⟩) (cell_lt p3)).trans p3
    replace p4 := (b3.cell (p := ⟨w1.heap.size, 4, none⟩) (cell_lt p4)).trans p4
    replace p5 := (b3.cell (p := ⟨w1.heap.size, 5, none⟩) (cell_lt p5)).trans p5
    have B3 := hB2.trans (b3.mono hB2.size)
    have BB3 : Below w2.heap.size w2 w3 := b3
    have hs3 := b3.size
    by_cases h1 : 0 ≤ pick ∧ pick < (mo : Int)
    rotate_left
    · have hd1 : decide (0 ≤ pick ∧ pick < (mo : Int)) = false := decide_eq_false h1
      have HX := Lib.hid (HBAD.out (fun h => h1 h.2.1))
      rw [hd1]
      clear HBAD HDI HU HCO HEL HLA h1 HGOOD
      go_wp2_with fail
      go_ret2
      rw [HRQ.out, HX.out]
      exact LcRes.no _ _ B3
    have hd1 : decide (0 ≤ pick ∧ pick < (mo : Int)) = true := decide_eq_true h1
    rw [hd1]
    have HD3 := HDI w3 BB3
    clear HDI
    cases hq : areB dir pa with
    | false =>
      rw [hq] at HD3
      have HX := Lib.hid (HBAD.out (fun h => by rw [hq] at h; exact absurd h.1 (by decide)))
      clear HBAD HU HCO HEL HLA hq h1 hd1 HGOOD
      go_wp2_with fail
      refine HD3.out.mono ?_; rintro e w4 ⟨rfl, b4⟩
      have B4 := B3.trans (b4.mono B3.size)
      go_wp2_with fail
      go_ret2
      rw [HRQ.out, HX.out]
      exact LcRes.no _ _ B4
    | true =>
      rw [hq] at HD3
      by_cases h2 : 0 ≤ count ∧ count < 13
      rotate_left
      · have hd2 : decide (0 ≤ count ∧ count < 13) = false := decide_eq_false h2
        rw [hd2] at HU
        have HX := Lib.hid (HBAD.out (fun h => h2 h.2.2))
        clear HBAD HCO HEL HLA hq h1 hd1 h2 hd2 HGOOD
        go_wp2_with fail
        refine HD3.out.mono ?_; rintro e w4 ⟨rfl, b4⟩
        have B4 := B3.trans (b4.mono B3.size)
        go_wp2_with fail
        refine (HU _).out.mono ?_; rintro e w5 ⟨rfl, rfl⟩
        go_wp2_with fail
        go_ret2
        rw [HRQ.out, HX.out]
        exact LcRes.no _ _ B4
      · have hd2 : decide (0 ≤ count ∧ count < 13) = true := decide_eq_true h2
        rw [hd2] at HU
        obtain ⟨m, hm⟩ := Int.eq_ofNat_of_zero_le h2.1
        obtain ⟨pk, hpk⟩ := Int.eq_ofNat_of_zero_le h1.1
        have HG := Lib.hid (HGOOD.out m pk hm hpk ⟨hq, h1, h2⟩)
        have HC4 := fun (W : World) (hW : Below w0.heap.size w0 W) (i : Nat) (ai : Option Addr) (ci : Nat) (hi : At W ai (argI args dir i)) (h1 : args.length ≤ ci) (h2 : ci ≤ 9223372036854775807) => HCO W hW i ai ci hi h1 h2 hq
        have HE4 := fun (W : World) (hW : Below w0.heap.size w0 W) (i : Nat) (ai : Option Addr) (ci : Nat) (hi : At W ai (argI args dir i)) => HEL W hW i ai ci hi hq
        have hm13 : m < 13 := by omega
        have hpk2 : pk < mo := by omega
        subst hm
        subst hpk
        have HST : Hid (∀ i, (slS fs j pk args dir i).c = 0 → (alL fs j (argI args dir i) dir).c = 0 → slS fs j pk args dir (i + 1) = ⟨(slS fs j pk args dir i).l ++ [((alL fs j (argI args dir i) dir).l.getD pk (0, 0)).2], 0, 0⟩) := fun i h h2 => slS_go h h2
        have HSB : Hid (∀ i k, (slS fs j pk args dir i).c = 0 → ¬ (alL fs j (argI args dir i) dir).c = 0 → slS fs j pk args dir (i + 1 + k) = ⟨[], 0, (alL fs j (argI args dir i) dir).c⟩) := fun i k h h2 => slS_bad h h2 k
        have HSL : Hid (∀ i, (slS fs j pk args dir i).c = 0 → (slS fs j pk args dir i).l.length = i) := fun i h => slS_len h
        have HS0 : Hid (slS fs j pk args dir 0 = ⟨[], 0, 0⟩) := rfl
        have HA00 : Hid (At w0 aa (argI args dir 0)) := HA0.out
        generalize slS fs j pk args dir = S at *
        have hall : ∃ AL : Nat → Rl IP, AL = fun i => alL fs j (argI args dir i) dir := ⟨_, rfl⟩
        obtain ⟨AL, hAL⟩ := hall
        have eAL : ∀ i, alL fs j (argI args dir i) dir = AL i := fun i => by rw [hAL]
        simp only [eAL] at HC4 HLA
        have HST2 : Hid (∀ i, (S i).c = 0 → (AL i).c = 0 → S (i + 1) = ⟨(S i).l ++ [((AL i).l.getD pk (0, 0)).2], 0, 0⟩) := fun i h h2 => by have := HST.out i h (by rw [eAL]; exact h2); rw [eAL] at this; exact this
        have HSB2 : Hid (∀ i k, (S i).c = 0 → ¬ (AL i).c = 0 → S (i + 1 + k) = ⟨[], 0, (AL i).c⟩) := fun i k h h2 => by have := HSB.out i k h (by rw [eAL]; exact h2); rw [eAL] at this; exact this
        clear HBAD HCO HEL HGOOD hq h1 hd1 h2 hd2 HST HSB hAL eAL HA0
        go_wp2_with fail
        refine HD3.out.mono ?_; rintro e w4 ⟨rfl, b4⟩
        have B4 := B3.trans (b4.mono B3.size)
        have BB4 : Below w2.heap.size w2 w4 := BB3.trans (b4.mono hs3)
        replace pz := (b4.frozen (p := ⟨w1.heap.size, 5, none⟩) (cell_lt p0)).trans pz
        replace p0 := (b4.cell (p := ⟨w1.heap.size, 0, none⟩) (cell_lt p0)).trans p0
        replace p1 := (b4.cell (p := ⟨w1.heap.size, 1, none⟩) (cell_lt p1)).trans p1
        replace p2 := (b4.cell (p := ⟨w1.heap.size, 2, none⟩) (cell_lt p2)).trans p2
        replace p3 := (b4.cell (p := ⟨w1.heap.size, 3, none⟩) (cell_lt p3)).trans p3
        replace p4 := (b4.cell (p := ⟨w1.heap.size, 4, none⟩) (cell_lt p4)).trans p4
        replace p5 := (b4.cell (p := ⟨w1.heap.size, 5, none⟩) (cell_lt p5)).trans p5
        go_wp2_with fail
        refine (HU _).out.mono ?_; rintro e w5 ⟨rfl, rfl⟩
        obtain ⟨i0, hi, hz0, hz1, hz2⟩ := info_parts info64
        go_wp2_with (refine wpList_make_full _ rfl _ _ 25 rfl w4.heap.size 2 i0 (.int .i64 0) 1 Tryz.underlying25 hi hz0 hz1 .i64 .i64 _ _ m rfl rfl rfl rfl ?c2 ?c3 (Nat.le_refl _) ?_)
        case c2 => rw [hz2]; omega
        case c3 => unfold maxLen; omega
        intro w5 ho1 hg1
        have b5 := (Below.refl w4.heap.size w4).grown hg1 (Nat.le_refl _) (by intro k hk; cases hk)
        have hB0 : w1.heap.size < w4.heap.size := cell_lt p0
        have hb05 : Below w0.heap.size w0 w5 := (hb12.trans (BB4.mono hb12.size)).trans (b5.mono (by have := hb1.size; omega))
        have HO0 : Hid (Own w4.heap.size w5 w4.heap.size m (fillz m (S 0).l)) := by rw [HS0.out]; exact made_own ho1
        have HP0 : Hid (PlAt w5 w1.heap.size ap fs.length capp nm pa af mo cf aa args.length ca) := PlAt.next ⟨p0, p1, p2, p3, p4, p5, pz⟩ b5
        have HW0 := Lib.hid hb05
        have HAT0 : Hid (At w5 aa (argI args dir 0)) := HA00.out.below hb05 (Nat.le_refl _)
        have HC0 : Hid ((S 0).c = 0) := by show _ = _; rw [HS0.out]
        have HN0 : Hid (∀ b, blk aa (argI args dir 0) = some b → ¬ (b = w4.heap.size ∨ b = w1.heap.size)) := by
          show ∀ b, _
          intro b hb
          have hne : argI args dir 0 ≠ [] := by intro e; rw [e] at hb; simp [blk] at hb
          obtain ⟨b', off, rfl, hb', _⟩ := HA00.out.resolve_left hne
          have e : b' = b := by simpa [blk, hne] using hb
          have := hb1.size
          omega
        have HCA0 : Hid (args.length ≤ ca ∧ ca ≤ 9223372036854775807) := ⟨hca, hca2⟩
        have hBw : w.heap.size ≤ w1.heap.size := by have := hb0.size; have := hb1.size; omega
        have h01 : w0.heap.size ≤ w1.heap.size := hb1.size
        have HWB := Lib.hid (show Below w.heap.size w w0 from hb0)
        clear ho1 hg1 b5 hb05 p0 p1 p2 p3 p4 p5 pz HA00 hca hca2 hi hz0 hz1 hz2 HU HD3 hb0 hb1 hb12 hB1 hB2 b2 B3 BB3 b3 B4 BB4 b4 hs1 hs3
        have HLN : Hid (∀ i, (argI args dir i).length = args.length) := argI_len args dir
        generalize args.length = n at *
        go_wp2_with fail
        go_loopw [50] (fun x wr => ∃ (i : Nat) (ai : Option Addr) (ci : Nat), i ≤ m ∧ x = .int .i64 i ∧ Hid ((S i).c = 0) ∧ Hid (Own w4.heap.size wr w4.heap.size m (fillz m (S i).l)) ∧ Hid (PlAt wr w1.heap.size ap fs.length capp nm pa af mo cf ai n ci) ∧ Hid (At wr ai (argI args dir i)) ∧ Hid (∀ b, blk ai (argI args dir i) = some b → ¬ (b = w4.heap.size ∨ b = w1.heap.size)) ∧ Hid (n ≤ ci ∧ ci ≤ 9223372036854775807) ∧ Hid (Below w0.heap.size w0 wr)) (fun x _ => m - (intOf x).toNat)
        case atStart => exact ⟨0, aa, ca, Nat.zero_le _, rfl, HC0.out, HO0.out, HP0.out, HAT0.out, HN0.out, HCA0.out, HW0.out⟩
        case round =>
          obtain ⟨i, ai, ci, hi, rfl, HC, HO, HP, HAT, HN, HCA, HW⟩ := hrel
          clear HC0 HO0 HP0 HAT0 HN0 HCA0 HW0
          by_cases hlt : i < m
          · have hii : (i : Int) < (m : Int) := by omega
            obtain ⟨p0, p1, p2, p3, p4, p5, pz⟩ := HP.out
            have HCX := HC4 wr HW.out i ai ci HAT.out HCA.out.1 HCA.out.2
            go_wp2_with fail
            refine HCX.out.mono ?_; rintro e w6 ⟨a6, c6, a7, c7, rfl, o6, o7, _, b6⟩
            have HW6 : Hid (Below w0.heap.size w0 w6) := HW.out.trans (b6.mono HW.out.size)
            by_cases hc : (AL i).c = 0
            · have hbf : ((AL i).c != 0) = false := by rw [hc]; rfl
              have hbl : drB (AL i) = (AL i).l.map Prod.snd := if_pos hc
              have hln : (drB (AL i)).length = mo := by rw [hbl, List.length_map]; exact HLA.out i hc
              have hvx : (drB (AL i)).getD pk 0 = ((AL i).l.getD pk (0, 0)).2 := by
                rw [hbl, List.getD_eq_getElem?_getD, List.getD_eq_getElem?_getD, List.getElem?_map]
                cases (AL i).l[pk]? <;> rfl
              obtain ⟨g7, rfl, o7'⟩ := o7.resolve_left (by intro e; rw [e] at hln; simp at hln; omega)
              have hx := o7'.cellAt pk (by rw [hln]; exact hpk2)
              rw [hvx] at hx
              have hpi : (pk : Int) < ((drB (AL i)).length : Int) := by omega
              have hSN : S (i + 1) = ⟨(S i).l ++ [((AL i).l.getD pk (0, 0)).2], 0, 0⟩ := HST2.out i HC.out hc
              have hli := HSL.out i HC.out
              have hO6 := HO.out.kept b6 HO.out.base.2
              have hcs := hO6.cellAt i (by rw [fillz_len (by omega)]; exact hlt)
              have hfr := hO6.frz i
              have hset := hO6.set i ((AL i).l.getD pk (0, 0)).2
              have hs2 : (fillz m (S i).l).set i ((AL i).l.getD pk (0, 0)).2 = fillz m (S (i + 1)).l := by
                have e := fillz_set (n := m) (xs := (S i).l) (by omega) ((AL i).l.getD pk (0, 0)).2
                rw [hli] at e
                rw [e, hSN]
              rw [hs2] at hset
              obtain ⟨w7, hw7⟩ : ∃ w7, w6.setCell ⟨w4.heap.size, i, none⟩ (.int .i64 ((AL i).l.getD pk (0, 0)).2) = w7 := ⟨_, rfl⟩
              have hg4 := HO.out.base
              have h06 := HW6.out.size
              have HO7 : Hid (Own w4.heap.size w7 w4.heap.size m (fillz m (S (i + 1)).l)) := by show Own _ _ _ _ _; rw [← hw7]; exact hset
              have k7 : Kp (fun b => b = w4.heap.size ∨ b = w1.heap.size) wr w7 := by rw [← hw7]; exact (Kp.of_below b6).trans (Kp.set (p := ⟨w4.heap.size, i, none⟩) (.inl rfl))
              have HP7 : Hid (PlAt w7 w1.heap.size ap fs.length capp nm pa af mo cf ai n ci) := by show PlAt _ _ _ _ _ _ _ _ _ _ _ _ _; rw [← hw7]; exact (HP.out.next b6).keep (Kp.set (S := fun b => b = w4.heap.size) (p := ⟨w4.heap.size, i, none⟩) rfl) (by show ¬ w1.heap.size = w4.heap.size; omega)
              have HAT7 : Hid (At w7 ai (argI args dir i)) := HAT.out.keptS k7 HN.out
              have HW7 : Hid (Below w0.heap.size w0 w7) := by show Below _ _ _; rw [← hw7]; exact HW6.out.setCell (p := ⟨w4.heap.size, i, none⟩) (by show w0.heap.size ≤ w4.heap.size; omega) _
              have z7 : w7.heap.size = w6.heap.size := by rw [← hw7]; simp
              have HE7 := HE4 w7 HW7.out i ai ci HAT7.out
              have HC1 : Hid ((S (i + 1)).c = 0) := by show _ = _; rw [hSN]
              have HLN1 := Lib.hid (HLN.out (i + 1))
              have hq67 := b6.size
              clear hO6 hset hs2 hSN hli hln hbl hvx HCX o6 o7 o7' b6 HO HAT HN HP HW HW6 HCA k7
              generalize ((AL i).l.getD pk (0, 0)).2 = vx at *
              generalize (drB (AL i)).length = q7 at *
              generalize (fillz m (S i).l).getD i 0 = z at hcs
              obtain ⟨q0, q1, q2, q3, q4, q5, qz⟩ := HP7.out
              go_wp2_with fail
              clear hw7 hcs hfr hx
              refine HE7.out.mono ?_; rintro e w9 ⟨g9, c9, rfl, o9, b9⟩
              have hg9 := o9.base
              have HP9 := HP7.out.next b9
              have r5 := HP9.c5
              have rz := HP9.fz
              have hne9 : w1.heap.size ≠ g9 := by omega
              have HO9 : Hid (Own w4.heap.size (w9.setCell ⟨w1.heap.size, 5, none⟩ (.slice (some ⟨g9, 0, none⟩) n c9)) w4.heap.size m (fillz m (S (i + 1)).l)) := (HO7.out.kept b9 HO7.out.base.2).setOther (p := ⟨w1.heap.size, 5, none⟩) (by show w1.heap.size ≠ w4.heap.size; omega) _
              have HPN := Lib.hid (HP9.put (some ⟨g9, 0, none⟩) n c9)
              have oN := o9.setOther (p := ⟨w1.heap.size, 5, none⟩) (by show w1.heap.size ≠ g9; omega) (.slice (some ⟨g9, 0, none⟩) n c9)
              have HATN := Lib.hid oN.at
              have HNN : Hid (∀ b, blk (some ⟨g9, 0, none⟩) (argI args dir (i + 1)) = some b → ¬ (b = w4.heap.size ∨ b = w1.heap.size)) := fun b hb => by have := blk_eqE hb; omega
              have HCN : Hid (n ≤ c9 ∧ c9 ≤ 9223372036854775807) := ⟨by have := o9.cap_le; rw [HLN1.out] at this; exact this, o9.capM⟩
              have HWN : Hid (Below w0.heap.size w0 (w9.setCell ⟨w1.heap.size, 5, none⟩ (.slice (some ⟨g9, 0, none⟩) n c9))) := (HW7.out.trans (b9.mono HW7.out.size)).setCell (p := ⟨w1.heap.size, 5, none⟩) h01 _
              clear HE7 o9 b9 oN HP9 HO7 HP7 HAT7 HW7 q0 q1 q2 q3 q4 q5 qz
              go_wp2_with fail
              go_roundw
              case rel => exact ⟨i + 1, some ⟨g9, 0, none⟩, c9, by omega, by go_num, HC1.out, HO9.out, HPN.out, HATN.out, HNN.out, HCN.out, HWN.out⟩
              case measure => simp [intOf]; omega
            · have hbf : ((AL i).c != 0) = true := by simp [hc]
              have e9 : S m = ⟨[], 0, (AL i).c⟩ := by
                have := HSB2.out i (m - i - 1) HC.out hc
                rwa [show i + 1 + (m - i - 1) = m by omega] at this
              have HE9 := Lib.hid e9
              have HF : Hid (Below w.heap.size w w6) := HWB.out.trans (HW6.out.mono HWB.out.size)
              clear HCX e9 o6 o7 b6 HO HAT HN HP HW HW6
              go_wp2_with fail
              go_ret2
              rw [HRQ.out, HG.out, HE9.out]
              exact LcRes.no _ _ HF.out
          · have hii : ¬ (i : Int) < (m : Int) := by omega
            obtain rfl : i = m := by omega
            have HF : Hid (Below w.heap.size w wr) := HWB.out.trans (HW.out.mono HWB.out.size)
            have hli := HSL.out i HC.out
            have HX : Hid (Own w.heap.size wr w4.heap.size i (S i).l) := by
              have := HO.out
              rw [fillz_full hli] at this
              exact this.mono (by omega)
            have HL9 := Lib.hid hli
            clear HO HAT HN HP HW hli
            go_wp2_with fail
            go_ret2
            rw [HRQ.out, HG.out]
            exact ⟨some ⟨w4.heap.size, 0, none⟩, i, by rw [HL9.out, HC.out]; rfl, HX.out.a, HF.out⟩

end Go.Proofs.YtoedccgiahegnaaGreat
