/- RoundStates by the model. -/
import Derived.Test.YtoedccgiahegnaaGreatRsd
import Derived.Test.YtoedccgiahegnaaGreatFf
import Derived.Test.YtoedccgiahegnaaGreatGp
import Derived.Test.YtoedccgiahegnaaGreatVr
namespace Go.Proofs.YtoedccgiahegnaaGreat
open Go Go.RowKit
set_option linter.unusedVariables false

theorem rcC_eq {fs : List Fn} {f : Int} {args : List Int} {n : Int} : rcC fs f args n = if progB fs = true then (if rndB fs f = true ∧ (0 ≤ n ∧ n < 41) ∧ areB args (fs.getD f.toNat noFn).params = true then 0 else 2) else 1 := by
  unfold rcC roC plC rndB
  by_cases h1 : progB fs = true
  · rw [if_pos h1, if_pos h1]
    by_cases h2 : 0 ≤ f ∧ f < (fs.length : Int)
    · rw [if_pos h2, decide_eq_true h2, Bool.true_and]
      by_cases h5 : areB args (fs.getD f.toNat noFn).params = true
      · rw [if_pos h5, if_pos rfl]
        by_cases h3 : repB fs f = true
        · rw [if_pos h3, if_pos rfl]
          by_cases h4 : 0 ≤ n ∧ n < 41
          · rw [if_pos h4, if_pos ⟨h3, h4, h5⟩]
          · rw [if_neg h4, if_neg (fun h => h4 h.2.1)]
        · rw [if_neg h3, if_neg (show ¬ (2 : Int) = 0 by decide), if_neg (fun h => h3 h.1)]
      · rw [if_neg h5, if_neg (show ¬ (2 : Int) = 0 by decide), if_neg (show ¬ (2 : Int) = 0 by decide), if_neg (fun h => h5 h.2.2)]
    · rw [if_neg h2, if_neg (show ¬ (2 : Int) = 0 by decide), if_neg (show ¬ (2 : Int) = 0 by decide), if_neg (fun h => by have h3 := h.1; rw [decide_eq_false h2] at h3; cases h3)]
  · rw [if_neg h1, if_neg h1, if_neg (show ¬ (1 : Int) = 0 by decide), if_neg (show ¬ (1 : Int) = 0 by decide)]
theorem below_q {w w' : World} (h : ∃ n, w' = w.drewN n) : Below w.heap.size w w' := by obtain ⟨n, rfl⟩ := h; exact below_drewN (Below.refl _ _) n
theorem quietTr {w w1 w2 : World} (h : ∃ n, w1 = w.drewN n) (h2 : ∃ n, w2 = w1.drewN n) : ∃ n, w2 = w.drewN n := by
  obtain ⟨a, rfl⟩ := h
  obtain ⟨b, rfl⟩ := h2
  exact ⟨a + b, by simp⟩

set_option maxRecDepth 100000 in
set_option maxHeartbeats 6400000 in
theorem sRounds (fs : List Fn) (bp op : Nat) (ap : Option Addr) (capp : Nat) (f : Int) (aa : Option Addr) (ca : Nat) (args : List Int) (n : Int) (w : World)
    (hp : w.cell? ⟨bp, op, none⟩ = some (.slice ap fs.length capp)) (hP : Pat w 0 w.heap.size fs ap) (hsz : pgSize fs ≤ 1048576) (hA : At w aa args) (hal : args.length ≤ 1048576) :
    Calls Tryz.prog 59 #[.pointer (some ⟨bp, op, none⟩), .int .i64 f, .slice aa args.length ca, .slice aa args.length ca, .int .i64 n] w (Quiet (.int .i64 (rcC fs f args n)) w) := by
  have HOK := Lib.hid (sOkP fs bp op ap capp w hp hP hsz)
  have HRD := fun (W : World) (hW : Below w.heap.size w W) => Lib.hid (sRound fs bp op ap capp f W ((hW.cell (p := ⟨bp, op, none⟩) (cell_lt hp)).trans hp) ((hP.below hW).mono (Nat.le_refl _) hW.size) hsz)
  have HIN := fun W => Lib.hid (sIn n 0 40 W)
  have HN := fun (W : World) (hW : Below w.heap.size w W) => Lib.hid (sNumbers aa ca args W (hA.below hW (Nat.le_refl _)) (by omega))
  have HRC := Lib.hid (rcC_eq (fs := fs) (f := f) (args := args) (n := n))
  have HFA : Hid (rndB fs f = true → ∃ j bf of, f = Int.ofNat j ∧ ap = some ⟨bf, of, none⟩ ∧ j < fs.length ∧ ∀ W, Below w.heap.size w W → W.cell? ⟨bf, of + j * 3 + 1, none⟩ = some (.int .i64 (fs.getD f.toNat noFn).params)) := fun h => by
    unfold rndB at h
    rw [Bool.and_eq_true] at h
    have h2 := of_decide_eq_true h.1
    obtain ⟨j, rfl⟩ := Int.eq_ofNat_of_zero_le h2.1
    have hj : j < fs.length := by omega
    obtain ⟨bf, of, rfl, hbB, hall⟩ := hP.resolve_left (by intro e; rw [e] at hj; simp at hj)
    obtain ⟨hr, af, cf, f0, f1, f2, hFo⟩ := hall j hj
    exact ⟨j, bf, of, rfl, rfl, hj, fun W hW => (hW.cell (p := ⟨bf, of + j * 3 + 1, none⟩) (cell_lt f1)).trans f1⟩
  have HPW : Hid (∀ W, Below w.heap.size w W → W.cell? ⟨bp, op, none⟩ = some (.slice ap fs.length capp)) := fun W hW => (hW.cell (p := ⟨bp, op, none⟩) (cell_lt hp)).trans hp
  have hfl : fs.length ≤ 1048576 := by unfold pgSize at hsz; omega
  generalize rcC fs f args n = rc at *
  have HR : Hid (∀ W c, (∃ q, W = w.drewN q) → rc = c → Quiet (.int .i64 rc) w (.returned (.int .i64 c)) W) := fun W c hW h => by subst h; exact ⟨rfl, hW⟩
  generalize Quiet (.int .i64 rc) w = Q at *
  clear hp hP hA
  cases hpb : progB fs with
  | false =>
    rw [hpb] at HOK HRC
    have HC : Hid (rc = 1) := HRC.out
    clear HRC HFA HRD HIN HN HPW hpb
    go_enter Tryz.func59, Tryz.ntmps59
    go_wp2_with fail
    refine HOK.out.mono ?_; rintro e w1 ⟨rfl, hq1⟩
    have HQ1 := Lib.hid hq1
    clear hq1
    go_wp2_with fail
    exact HR.out _ _ HQ1.out HC.out
  | true =>
    rw [hpb] at HOK HRC
    have HRC2 : Hid (rc = if rndB fs f = true ∧ (0 ≤ n ∧ n < 41) ∧ areB args (fs.getD f.toNat noFn).params = true then 0 else 2) := HRC.out
    clear HRC hpb
    cases hrd : rndB fs f with
    | false =>
      have HC : Hid (rc = 2) := by show _ = _; rw [HRC2.out, if_neg (fun h => by rw [hrd] at h; cases h.1)]
      rw [hrd] at HRD
      clear HRC2 HFA HIN HN HPW hrd
      go_enter Tryz.func59, Tryz.ntmps59
      go_wp2_with fail
      refine HOK.out.mono ?_; rintro e w1 ⟨rfl, hq1⟩
      have HR2 := HRD w1 (below_q hq1)
      have HQ1 := Lib.hid hq1
      clear hq1 HRD
      go_wp2_with fail
      refine HR2.out.mono ?_; rintro e w2 ⟨rfl, hq2⟩
      have HQ2 := Lib.hid (quietTr HQ1.out hq2)
      clear hq2
      go_wp2_with fail
      exact HR.out _ _ HQ2.out HC.out
    | true =>
      obtain ⟨j, bf, of, rfl, rfl, hj, hf1⟩ := HFA.out hrd
      have ej : (Int.ofNat j).toNat = j := rfl
      rw [hrd] at HRD
      have HRC3 : Hid (rc = if (0 ≤ n ∧ n < 41) ∧ areB args (fs.getD (Int.ofNat j).toNat noFn).params = true then 0 else 2) := by
        show _ = _
        rw [HRC2.out]
        simp only [hrd, true_and]
      have HF1 := Lib.hid hf1
      clear HFA HRC2 hrd hf1 ej
      generalize (fs.getD (Int.ofNat j).toNat noFn).params = pm at *
      change ∀ W, Below w.heap.size w W → Hid (Calls Tryz.prog 85 #[.pointer (some ⟨bp, op, none⟩), .int .i64 (j : Int)] W (Quiet (.bool true) W)) at HRD
      show Calls Tryz.prog 59 #[.pointer (some ⟨bp, op, none⟩), .int .i64 (j : Int), .slice aa args.length ca, .slice aa args.length ca, .int .i64 n] w Q
      have hji : (j : Int) < (fs.length : Int) := by omega
      by_cases hn : 0 ≤ n ∧ n < 41
      rotate_left
      · have hin : inB n 0 40 = false := inB_no (by omega)
        rw [hin] at HIN
        have HC : Hid (rc = 2) := by show _ = _; rw [HRC3.out, if_neg (fun h => hn h.1)]
        clear HRC3 HN HPW HF1 hn hin
        go_enter Tryz.func59, Tryz.ntmps59
        go_wp2_with fail
        refine HOK.out.mono ?_; rintro e w1 ⟨rfl, hq1⟩
        have HR2 := HRD w1 (below_q hq1)
        have HQ1 := Lib.hid hq1
        clear hq1 HRD
        go_wp2_with fail
        refine HR2.out.mono ?_; rintro e w2 ⟨rfl, hq2⟩
        have HQ2 := Lib.hid (quietTr HQ1.out hq2)
        clear hq2
        go_wp2_with fail
        refine (HIN _).out.mono ?_; rintro e w3 ⟨rfl, rfl⟩
        go_wp2_with fail
        exact HR.out _ _ HQ2.out HC.out
      · have hin : inB n 0 40 = true := inB_of (by omega)
        rw [hin] at HIN
        have HRC4 : Hid (rc = if areB args pm = true then 0 else 2) := by
          show _ = _
          rw [HRC3.out]
          simp only [hn, true_and, and_self]
        clear HRC3 hn hin
        by_cases hl : (args.length : Int) = pm
        rotate_left
        · have hlb : ((args.length : Int) != pm) = true := by simpa using hl
          have HC : Hid (rc = 2) := by show _ = _; rw [HRC4.out, areB_len hl]; rfl
          clear HRC4 HN hl
          go_enter Tryz.func59, Tryz.ntmps59
          go_wp2_with fail
          refine HOK.out.mono ?_; rintro e w1 ⟨rfl, hq1⟩
          have HR2 := HRD w1 (below_q hq1)
          have HQ1 := Lib.hid hq1
          clear hq1 HRD
          go_wp2_with fail
          refine HR2.out.mono ?_; rintro e w2 ⟨rfl, hq2⟩
          have HQ2 := Lib.hid (quietTr HQ1.out hq2)
          have hp2 := HPW.out w2 (below_q HQ2.out)
          have f2 := HF1.out w2 (below_q HQ2.out)
          clear hq2 HPW HF1
          go_wp2_with fail
          refine (HIN _).out.mono ?_; rintro e w3 ⟨rfl, rfl⟩
          go_wp2_with fail
          exact HR.out _ _ HQ2.out HC.out
        · have hlb : ((args.length : Int) != pm) = false := by rw [hl]; simp
          have HAR : Hid (areB args pm = okNums args) := areB_of hl
          clear hl
          cases hnm : okNums args with
          | false =>
            have HC : Hid (rc = 2) := by show _ = _; rw [HRC4.out, HAR.out, hnm]; rfl
            rw [hnm] at HN
            clear HRC4 HAR hnm
            go_enter Tryz.func59, Tryz.ntmps59
            go_wp2_with fail
            refine HOK.out.mono ?_; rintro e w1 ⟨rfl, hq1⟩
            have HR2 := HRD w1 (below_q hq1)
            have HQ1 := Lib.hid hq1
            clear hq1 HRD
            go_wp2_with fail
            refine HR2.out.mono ?_; rintro e w2 ⟨rfl, hq2⟩
            have HQ2 := Lib.hid (quietTr HQ1.out hq2)
            have hp2 := HPW.out w2 (below_q HQ2.out)
            have f2 := HF1.out w2 (below_q HQ2.out)
            have HN2 := HN w2 (below_q HQ2.out)
            clear hq2 HPW HF1 HN
            go_wp2_with fail
            refine (HIN _).out.mono ?_; rintro e w3 ⟨rfl, rfl⟩
            go_wp2_with fail
            refine HN2.out.mono ?_; rintro e w3 ⟨rfl, rfl⟩
            go_wp2_with fail
            exact HR.out _ _ HQ2.out HC.out
          | true =>
            have HC : Hid (rc = 0) := by show _ = _; rw [HRC4.out, HAR.out, hnm]; rfl
            rw [hnm] at HN
            clear HRC4 HAR hnm
            go_enter Tryz.func59, Tryz.ntmps59
            go_wp2_with fail
            refine HOK.out.mono ?_; rintro e w1 ⟨rfl, hq1⟩
            have HR2 := HRD w1 (below_q hq1)
            have HQ1 := Lib.hid hq1
            clear hq1 HRD
            go_wp2_with fail
            refine HR2.out.mono ?_; rintro e w2 ⟨rfl, hq2⟩
            have HQ2 := Lib.hid (quietTr HQ1.out hq2)
            have hp2 := HPW.out w2 (below_q HQ2.out)
            have f2 := HF1.out w2 (below_q HQ2.out)
            have HN2 := HN w2 (below_q HQ2.out)
            clear hq2 HPW HF1 HN
            go_wp2_with fail
            refine (HIN _).out.mono ?_; rintro e w3 ⟨rfl, rfl⟩
            go_wp2_with fail
            refine HN2.out.mono ?_; rintro e w3 ⟨rfl, rfl⟩
            go_wp2_with fail
            refine HN2.out.mono ?_; rintro e w3 ⟨rfl, rfl⟩
            go_wp2_with fail
            exact HR.out _ _ HQ2.out HC.out

set_option maxRecDepth 100000 in
set_option maxHeartbeats 12800000 in
theorem sStates (fs : List Fn) (bp op : Nat) (ap : Option Addr) (capp : Nat) (j : Nat) (aa : Option Addr) (ca : Nat) (args : List Int) (n : Nat) (w : World)
    (hp : w.cell? ⟨bp, op, none⟩ = some (.slice ap fs.length capp)) (hpb : progB fs = true) (hj : j < fs.length) (hfl : fs.length ≤ 1048576) (hP : Pat w 0 w.heap.size fs ap) (hA : At w aa args) (hN : Nums args) (hal : (args.length : Int) = (fs.getD j noFn).params) (hpa : (fs.getD j noFn).outs.len = args.length) (hl1 : 1 ≤ args.length) (hab : args.length ≤ 1048576) (hn : n ≤ 40) :
    Calls Tryz.prog 60 #[.pointer (some ⟨bp, op, none⟩), .int .i64 j, .slice aa args.length ca, .int .i64 n] w (JaRes w (stA fs j args n) (stE fs j args n).c) := by
  obtain ⟨i1, hj1, hy0, hy1, hy2⟩ := info_parts infoRowE
  have HCL := Lib.hid (sOwnE aa ca args.length args w hA rfl hl1 hab)
  have HEV := fun (W : World) (hW : Below w.heap.size w W) (i : Nat) (a : Option Addr) (c : Nat) (hA : At W a (stE fs j args i).l) (hN : Nums (stE fs j args i).l) (hl : (stE fs j args i).l.length = args.length) => Lib.hid (show Calls Tryz.prog 37 #[.pointer (some ⟨bp, op, none⟩), .int .i64 j, .slice a args.length c] W (EvM W (vaL fs j (stE fs j args i).l)) from by
    have h := sEval fs bp op ap capp j a c (stE fs j args i).l W ((hW.cell (p := ⟨bp, op, none⟩) (cell_lt hp)).trans hp) hpb hj hfl ((hP.below hW).mono (Nat.le_refl _) hW.size) hA hN (by rw [hl]; exact hal)
    rw [hl] at h
    exact h)
  have HGO : Hid (∀ i, (stE fs j args i).c = 0 → (stE fs j args (i + 1)).c = (vaL fs j (stE fs j args i).l).c ∧ (stE fs j args (i + 1)).l = (vaL fs j (stE fs j args i).l).l) := fun i h => by rw [stE_go h]; exact ⟨rfl, rfl⟩
  have HBD : Hid (∀ i k, ¬ (stE fs j args i).c = 0 → stE fs j args (i + k) = stE fs j args i) := fun i k h => stE_bad h k
  have HLE : Hid (∀ l, (vaL fs j l).c = 0 → (vaL fs j l).l.length = args.length) := fun l h => by rw [← hpa]; exact lisE_len _ h
  have HJA : Hid (stA fs j args n = if (stE fs j args n).c = 0 then stR (stE fs j args) (n + 1) else []) := rfl
  generalize stA fs j args n = JA at *
  have HS0 : Hid ((stE fs j args 0).c = 0 ∧ (stE fs j args 0).l = args) := ⟨rfl, rfl⟩
  have HN0 := Lib.hid hN
  unfold EvM at HEV
  clear hp hpb hj hP hA hN hal
  generalize stE fs j args = S at *
  obtain ⟨V, hV⟩ : ∃ V : List Int → Rl Int, V = vaL fs j := ⟨_, rfl⟩
  have eV : ∀ l, vaL fs j l = V l := fun l => by rw [hV]
  simp only [eV] at HEV HGO HLE
  clear hV eV hpa
  go_enter Tryz.func60, Tryz.ntmps60
  go_wp2_with fail
  refine HCL.out.mono ?_; rintro e w2 ⟨g0, c0, rfl, o0, b2⟩
  have hg0 := o0.base
  have hs2 := b2.size
  have HM0 : Hid (∃ A K, Mq (w2.alloc (.cells #[.slice (some ⟨g0, 0, none⟩) args.length c0] 25)) w.heap.size w2.heap.size 1 (0 + 1) (stR S (0 + 1)) A K) := ⟨_, _, Mq.one o0 (by rw [stR_at (by omega), HS0.out.2])⟩
  have HB0 : Hid (Below w.heap.size w (w2.alloc (.cells #[.slice (some ⟨g0, 0, none⟩) args.length c0] 25))) := b2.alloc hs2 _
  have HX0 : Hid (Nums (S 0).l ∧ (S 0).l.length = args.length) := by show _ ∧ _; rw [HS0.out.2]; exact ⟨HN0.out, rfl⟩
  clear HCL HN0 o0 b2 hg0
  go_wp2_with fail
  go_loopw [10, 11] (fun lv x wr => ∃ i g kg : Nat, i ≤ n ∧ x = .int .i64 i ∧ lv = .slice (some ⟨g, 0, none⟩) (i + 1) kg ∧ Hid ((S i).c = 0) ∧ Hid (∃ A K, Mq wr w.heap.size g kg (i + 1) (stR S (i + 1)) A K) ∧ Hid (Nums (S i).l ∧ (S i).l.length = args.length) ∧ Hid (Below w.heap.size w wr)) (fun _ x _ => n - (intOf x).toNat)
  case atStart => exact ⟨0, w2.heap.size, 1, Nat.zero_le _, rfl, rfl, HS0.out.1, HM0.out, HX0.out, HB0.out⟩
  case round =>
    obtain ⟨i, g, kg, hi, rfl, rfl, HC, HM, HX, HB⟩ := hrel
    clear HM0 HX0 HB0 HS0 hs2
    have hsw := HB.out.size
    by_cases hlt : i < n
    · have hii : (i : Int) < (n : Int) := by omega
      have hix : (i : Int) < (i : Int) + 1 := by omega
      have hiy : i < i + 1 := by omega
      obtain ⟨hNs, hLn⟩ := HX.out
      obtain ⟨A, K, hM⟩ := HM.out
      have hr0 := hM.cell i (by omega)
      have hAt := (hM.row i (by omega)).at
      rw [stR_at (by omega)] at hr0 hAt
      rw [hLn] at hr0
      obtain ⟨ga, hga⟩ : ∃ ga, A i = ga := ⟨_, rfl⟩
      obtain ⟨cga, hcga⟩ : ∃ cga, K i = cga := ⟨_, rfl⟩
      rw [hga] at hr0 hAt
      rw [hcga] at hr0
      have HCA := HEV wr HB.out i ga cga hAt hNs hLn
      obtain ⟨hv1, hv2⟩ := HGO.out i HC.out
      have HLV := Lib.hid (HLE.out (S i).l)
      clear HEV HLE HX hAt hNs hLn hM hga hcga
      generalize V (S i).l = r at *
      go_wp2_with fail
      refine HCA.out.mono ?_; rintro e w3 ⟨b3, ⟨hy, g7, c7, rfl, o7, hN7⟩ | ⟨hn, g7, rfl⟩⟩
      rotate_left
      · have hbf : (r.c != 0) = true := by simp [hn]
        have hSn : S n = S (i + 1) := by
          have := HBD.out (i + 1) (n - i - 1) (by rw [hv1]; exact hn)
          rwa [show i + 1 + (n - i - 1) = n by omega] at this
        have HSC : Hid ((S n).c = r.c) := by show _ = _; rw [hSn, hv1]
        have HJ0 : Hid (JA = []) := by show _ = _; rw [HJA.out, if_neg (by rw [HSC.out]; exact hn)]
        have B3 := Lib.hid (HB.out.trans (b3.mono hsw))
        have hs3 := B3.out.size
        clear HCA hn hSn b3 hr0
        go_wp2_with fail
        go_ret2
        exact ⟨_, 0, by rw [HSC.out, HJ0.out]; rfl, .inl HJ0.out, B3.out.alloc hs3 _⟩
      · have hln := HLV.out hy
        have hbf : (r.c != 0) = false := by rw [hy]; rfl
        have hg7 := o7.base
        have hs3 := b3.size
        have B3 := HB.out.trans (b3.mono hsw)
        obtain ⟨A, K, hM⟩ := HM.out
        have hgb := hM.base
        have hM8 := hM.next b3
        obtain ⟨us, hu1, hu2⟩ := hM8.top
        have hul : us.length = i + 1 := by have := hu1.1; omega
        have HO8 := Lib.hid (o7.mono hsw)
        have HB8 := Lib.hid B3
        have HM8 := Lib.hid hM8
        have HU2 := Lib.hid hu2
        have HWL : Hid (g7 ≠ g ∧ g7 < w3.heap.size ∧ (∀ q, q < i + 1 → ∀ p : Addr, A q = some p → p.block ≠ g7) ∧ w.heap.size ≤ g) := ⟨by omega, by omega, fun q hq p hp => by have := (hM.row q hq).blk p hp; omega, by omega⟩
        have HY := Lib.hid hy
        have HN7 := Lib.hid hN7
        have HLN := Lib.hid hln
        have HV1 := Lib.hid hv1
        have HV2 := Lib.hid hv2
        have hsb : w.heap.size ≤ w3.heap.size := by omega
        rw [hln]
        clear HCA HM hM b3 hM8 hu2 o7 B3 hy hN7 hln hv1 hv2 HLV hg7 hs3 hr0
        go_wp2_with (at_builtin; refine wpList_append_lies _ rfl _ _ _ rfl w.heap.size 25 i1 _ 1 24 Tryz.underlying47 hj1 hy0 hy1 hy2 rfl (by omega) (.slice (some ⟨g, 0, none⟩) (i + 1) kg) (i + 1) us rfl (hu1.alloc _) ⟨w3.heap.size, 0, none⟩ 1 1 [.slice (some ⟨g7, 0, none⟩) args.length c7] rfl rfl (World.news_of_block (cs := #[.slice (some ⟨g7, 0, none⟩) args.length c7]) (t := 25) (fr := (0, 0)) (heap_alloc_new w3 _)) (by simp [Value.oneCell']) (by omega) (by unfold maxLen; omega) (by omega) (by simp; omega) (w3.heap.size + 1) (by simp) ?_; intro gg cg w4 hown4 hgrow hat hlt4)
        have bA : Below w3.heap.size w3 (w3.alloc (.cells #[.slice (some ⟨g7, 0, none⟩) args.length c7] 25)) := (Below.refl _ _).alloc (Nat.le_refl _) _
        obtain ⟨e1, e4, e5, e6⟩ := HWL.out
        have hgg : gg = g ∨ (w3.alloc (.cells #[.slice (some ⟨g7, 0, none⟩) args.length c7] 25)).heap.size ≤ gg := by
          rcases hat with e | e
          · left; simp [Value.ownBlock] at e; exact e.symm
          · right; simp; omega
        have oA : OwR w.heap.size (w3.alloc (.cells #[.slice (some ⟨g7, 0, none⟩) args.length c7] 25)) (some ⟨g7, 0, none⟩) c7 r.l := HO8.out.owr.keep (S := fun _ => False) (Kp.of_below bA) (fun _ _ h => h)
        have hN := HM8.out.pushR (ls' := stR S (i + 1 + 1)) bA hul HU2.out oA e1 e5 hgrow hgg (by rw [HLN.out]; exact hown4) (fun q hq => by
          rw [stR_at hq]
          by_cases e : q = i + 1
          · rw [if_pos e, e, HV2.out]
          · rw [if_neg e, stR_at (by omega)])
        have E1 : Hid (∃ A K, Mq w4 w.heap.size gg cg (i + 1 + 1) (stR S (i + 1 + 1)) A K) := ⟨_, _, hN⟩
        have E2 : Hid (Below w.heap.size w w4) := below_grownE (g := g) (HB8.out.trans (bA.mono HB8.out.size)) hgrow (Nat.le_refl _) (by omega)
        have E3 : Hid (Nums (S (i + 1)).l ∧ (S (i + 1)).l.length = args.length) := by show _ ∧ _; rw [HV2.out]; exact ⟨HN7.out, HLN.out⟩
        have E4 : Hid ((S (i + 1)).c = 0) := by show _ = _; rw [HV1.out]; exact HY.out
        clear hown4 hgrow hat hu1 bA hgg oA hN
        go_wp2_with fail
        go_roundw
        case rel => exact ⟨i + 1, gg, cg, by omega, by go_num, rfl, E4, E1, E3, E2⟩
        case measure => simp [intOf]; omega
    · have hii : ¬ (i : Int) < (n : Int) := by omega
      obtain rfl : i = n := by omega
      go_wp2_with fail
      go_ret2
      have hJ : JA = stR S (i + 1) := by rw [HJA.out, if_pos HC.out]
      have hl : JA.length = i + 1 := by rw [hJ]; exact stR_len _ _
      obtain ⟨A, K, hM⟩ := HM.out
      exact ⟨_, kg, by rw [HC.out, hl]; rfl, .inr ⟨g, A, K, rfl, by rw [hl, hJ]; exact hM⟩, HB.out⟩

/-- rows and a code, as one reads them -/
def RsM (w : World) (L : List (List Int)) (c : Int) (e : Ending) (w' : World) : Prop := ∃ a ca, e = .returned (.tuple #[.slice a L.length ca, .int .i64 c]) ∧ Mat w' a L ∧ Below w.heap.size w w'
set_option maxRecDepth 100000 in
set_option maxHeartbeats 6400000 in
theorem sRoundStates (fs : List Fn) (ap : Option Addr) (capp : Nat) (f : Int) (aa : Option Addr) (ca : Nat) (args : List Int) (n : Int) (w : World) (hP : Pat w 0 w.heap.size fs ap) (hsz : pgSize fs ≤ 1048576) (hA : At w aa args) (hal : args.length ≤ 1048576) :
    Calls Tryz.prog 26 #[.agg #[.slice ap fs.length capp], .int .i64 f, .slice aa args.length ca, .int .i64 n] w (RsM w (rsA fs f args n) (rsC fs f args n)) := by
  have hfl : fs.length ≤ 1048576 := by unfold pgSize at hsz; omega
  obtain ⟨w0, hw0⟩ : ∃ w0, w.alloc (.cells #[.slice ap fs.length capp] 31) = w0 := ⟨_, rfl⟩
  have hb0 : Below w.heap.size w w0 := by rw [← hw0]; exact (Below.refl _ _).alloc (Nat.le_refl _) _
  have P0 := (hP.below hb0).mono (Nat.le_refl _) hb0.size
  have A0 := hA.below hb0 (Nat.le_refl _)
  have c0 : w0.cell? ⟨w.heap.size, 0, none⟩ = some (.slice ap fs.length capp) := by rw [← hw0]; simp [go_sem]
  have HS := Lib.hid (sRounds fs w.heap.size 0 ap capp f aa ca args n w0 c0 P0 hsz A0 hal)
  have hs0 := hb0.size
  have HB0 := Lib.hid hb0
  by_cases h1 : rcC fs f args n = 0
  · obtain ⟨hro, hq⟩ := rcC_known h1
    obtain ⟨hpl, hrp⟩ := roC_known hro
    obtain ⟨k1, k2, k3⟩ := plC_known hpl
    have E1 : Hid (rsC fs f args n = (stE fs f.toNat args n.toNat).c) := if_pos h1
    have E2 : Hid (rsA fs f args n = stA fs f.toNat args n.toNat) := if_pos h1
    rw [h1] at HS
    obtain ⟨hr1, hr2⟩ := repB_known hrp
    obtain ⟨j, rfl⟩ := Int.eq_ofNat_of_zero_le k2.1
    obtain ⟨k, rfl⟩ := Int.eq_ofNat_of_zero_le hq.1
    have ej : (j : Int).toNat = j := rfl
    have ek : (k : Int).toNat = k := rfl
    rw [ej] at k3 E1 E2 hr1 hr2
    rw [ek] at E1 E2
    have hj : j < fs.length := by omega
    have hln := areB_ln k3
    have HJ := fun (W : World) (hW : Below w0.heap.size w0 W) => Lib.hid (sStates fs w.heap.size 0 ap capp j aa ca args k W ((hW.cell (p := ⟨w.heap.size, 0, none⟩) (cell_lt c0)).trans c0) k1 hj hfl ((P0.below hW).mono (Nat.le_refl _) hW.size) (A0.below hW (Nat.le_refl _)) (areB_nm k3) hln (by omega) (by omega) hal (by omega))
    generalize stE fs j args = S at *
    generalize stA fs j args k = JA at *
    clear k1 k2 k3 h1 hP hA P0 A0 c0 ej ek hb0 hro hq hpl hrp hr1 hr2 hln
    go_enter Tryz.func26, Tryz.ntmps26
    go_wp2_with fail
    clear hw0
    refine HS.out.mono ?_; rintro e w1 ⟨rfl, hq1⟩
    have hb1 := below_q hq1
    have HJ1 := HJ w1 hb1
    have hs1 := hb1.size
    have HB1 := Lib.hid (HB0.out.trans (hb1.mono hs0))
    clear HS hq1 HJ hb1
    go_wp2_with fail
    refine HJ1.out.mono ?_; rintro e w2 ⟨a, ka, rfl, o, b2⟩
    clear HJ1
    go_wp2_with fail
    go_ret2
    exact ⟨a, ka, by rw [E1.out, E2.out]; rfl, by rw [E2.out]; exact o.mat, HB1.out.trans (b2.mono HB1.out.size)⟩
  · have e1 : rsC fs f args n = rcC fs f args n := if_neg h1
    have e2 : rsA fs f args n = [] := if_neg h1
    have hbf : (rcC fs f args n != 0) = true := by simp [h1]
    have HX : Hid (∀ a W, Below w.heap.size w W → RsM w (rsA fs f args n) (rsC fs f args n) (.returned (.tuple #[.slice a 0 0, .int .i64 (rcC fs f args n)])) W) := fun a W hW => ⟨a, 0, by rw [e1, e2]; rfl, by rw [e2]; exact .inl rfl, hW⟩
    clear e1 e2 hP hA P0 A0 c0 h1 hb0
    generalize rcC fs f args n = pc at *
    go_enter Tryz.func26, Tryz.ntmps26
    go_wp2_with fail
    clear hw0
    refine HS.out.mono ?_; rintro e w1 ⟨rfl, hq1⟩
    have hb1 := below_q hq1
    have HB1 := Lib.hid (HB0.out.trans (hb1.mono hs0))
    have hs1 := HB1.out.size
    clear HS hq1 hb1
    go_wp2_with fail
    go_ret2
    exact HX.out _ _ (HB1.out.alloc hs1 _)

end Go.Proofs.YtoedccgiahegnaaGreat
