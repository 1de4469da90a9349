/- SlopeAlong by the model. -/
import Derived.Deep.AppendLies
import Derived.Test.YtoedccgiahegnaaGreatDq
import Derived.Test.YtoedccgiahegnaaGreatGh
namespace Go.Proofs.YtoedccgiahegnaaGreat
open Go.RowKit
set_option linter.unusedVariables false

set_option maxRecDepth 100000 in
set_option maxHeartbeats 1600000 in
theorem sOwnS (b1 o1 : Nat) (ca n : Nat) (l : List Int) (w : World) (ha : At w (some ⟨b1, o1, none⟩) l) (hn : l.length = n) (h2 : n ≤ 1048576) :
    Calls Tryz.prog 53 #[.slice (some ⟨b1, o1, none⟩) n ca] w fun e w' => ∃ g c, e = .returned (.slice (some ⟨g, 0, none⟩) n c) ∧ Own w.heap.size w' g c l ∧ Below w.heap.size w w' := by
  by_cases h0 : n = 0
  · subst h0
    have hl0 : l = [] := List.eq_nil_of_length_eq_zero hn
    have hB0 := (Below.refl w.heap.size w).alloc (Nat.le_refl _) (.cells #[] 2)
    have hO0 := own_none w w.heap.size (Nat.le_refl _)
    clear ha hn
    go_enter Tryz.func53, Tryz.ntmps53
    go_wp2_with fail
    go_ret
    exact ⟨w.heap.size, 0, rfl, by rw [hl0]; exact hO0, hB0⟩
  · exact sOwnE (some ⟨b1, o1, none⟩) ca n l w ha hn (by omega) h2

theorem col_at {m : List (List Int)} {l : List IP} {pk : Nat} (e : colL 1 m = l.map Prod.snd) : (m.getD pk []).getD 1 0 = (l.getD pk (0, 0)).2 := by
  have hl : m.length = l.length := by have := congrArg List.length e; simpa [colL] using this
  have h := congrArg (fun x => x.getD pk 0) e
  simp only [colL] at h
  by_cases hk : pk < l.length
  · have hm : pk < m.length := by omega
    simp [List.getD_eq_getElem?_getD, List.getElem?_eq_getElem hk, List.getElem?_eq_getElem hm] at h ⊢
    exact h
  · simp [List.getD_eq_getElem?_getD, List.getElem?_eq_none (show m.length ≤ pk by omega), List.getElem?_eq_none (show l.length ≤ pk by omega)]
theorem slC_pk {fs : List Fn} {f pick : Int} {args dir : List Int} {count : Int} : slC fs f pick args dir count = if pkC fs f pick args dir = 0 then (if 0 ≤ count ∧ count ≤ 12 then 0 else 2) else pkC fs f pick args dir := by
  unfold slC pkC
  by_cases h0 : drC fs f args dir = 0
  · rw [if_pos h0, if_pos h0]
    by_cases h1 : 0 ≤ pick ∧ pick ≤ ((fs.getD f.toNat noFn).outs.len : Int) - 1
    · rw [if_pos h1, if_pos rfl]
      by_cases h2 : 0 ≤ count ∧ count ≤ 12
      · rw [if_pos h2, if_pos ⟨⟨h1.1, by omega⟩, h2.1, by omega⟩]
      · rw [if_neg h2, if_neg (fun h => h2 ⟨h.2.1, by omega⟩)]
    · rw [if_neg h1, if_neg (fun h => h1 ⟨h.1.1, by omega⟩), if_neg (by decide)]
  · rw [if_neg h0, if_neg h0, if_neg h0]
theorem LcM.no {w w' : World} {c : Int} (a : Option Addr) (ca : Nat) (hb : Below w.heap.size w w') : LcM w [] c (.returned (.tuple #[.slice a 0 ca, .int .i64 c])) w' := ⟨a, ca, rfl, .inl rfl, hb⟩

set_option maxRecDepth 100000 in
set_option maxHeartbeats 12800000 in
theorem sSlope (fs : List Fn) (ap : Option Addr) (capp : Nat) (f pick : Int) (b1 o1 : Nat) (da : Option Addr) (ca cd : Nat) (args dir : List Int) (count : Int) (w : World) (hP : Pat w 0 w.heap.size fs ap) (hsz : pgSize fs ≤ 1048576) (hA : At w (some ⟨b1, o1, none⟩) args) (hal : args.length ≤ 1048576) (hD : At w da dir) (hdl : dir.length ≤ 1048576) :
    Calls Tryz.prog 24 #[.agg #[.slice ap fs.length capp], .int .i64 f, .int .i64 pick, .slice (some ⟨b1, o1, none⟩) args.length ca, .slice da dir.length cd, .int .i64 count] w (LcM w (slL fs f pick args dir count).l (slL fs f pick args dir count).c) := by
  have hfl : fs.length ≤ 1048576 := by unfold pgSize at hsz; omega
  obtain ⟨w0, hw0⟩ : ∃ w0, w.alloc (.cells #[.slice ap fs.length capp] 31) = w0 := ⟨_, rfl⟩
  have hb0 : Below w.heap.size w w0 := by rw [← hw0]; exact (Below.refl _ _).alloc (Nat.le_refl _) _
  have P0 := (hP.below hb0).mono (Nat.le_refl _) hb0.size
  have A0 := hA.below hb0 (Nat.le_refl _)
  have D0 := hD.below hb0 (Nat.le_refl _)
  have c0 : w0.cell? ⟨w.heap.size, 0, none⟩ = some (.slice ap fs.length capp) := by rw [← hw0]; simp [go_sem]
  have HS := Lib.hid (sPickedH fs w.heap.size 0 ap capp f pick _ da ca cd args dir w0 c0 P0 hsz A0 hal D0 hdl)
  have HIN := fun W => Lib.hid (sIn count 0 12 W)
  have HHC := Lib.hid (slC_pk (fs := fs) (f := f) (pick := pick) (args := args) (dir := dir) (count := count))
  have hs0 := hb0.size
  by_cases hc : slC fs f pick args dir count = 0
  · have hpk : pkC fs f pick args dir = 0 ∧ (0 ≤ count ∧ count ≤ 12) := by
      have h := HHC.out
      rw [hc] at h
      by_cases h1 : pkC fs f pick args dir = 0
      · rw [if_pos h1] at h
        by_cases h2 : 0 ≤ count ∧ count ≤ 12
        · exact ⟨h1, h2⟩
        · rw [if_neg h2] at h; cases h
      · rw [if_neg h1] at h; exact absurd h.symm h1
    have hdr : drC fs f args dir = 0 ∧ (0 ≤ pick ∧ pick < ((fs.getD f.toNat noFn).outs.len : Int)) := by
      have h := hc
      unfold slC at h
      by_cases h0 : drC fs f args dir = 0
      · rw [if_pos h0] at h
        by_cases h1 : (0 ≤ pick ∧ pick < ((fs.getD f.toNat noFn).outs.len : Int)) ∧ (0 ≤ count ∧ count < 13)
        · exact ⟨h0, h1.1⟩
        · rw [if_neg h1] at h; cases h
      · rw [if_neg h0] at h; exact absurd h h0
    obtain ⟨k1, k2, k3⟩ := plC_known (drC_known hdr.1).1
    have k4 := (drC_known hdr.1).2
    rw [hpk.1] at HS
    have hin : inB count 0 12 = true := by unfold inB; simp; omega
    rw [hin] at HIN
    have HL := Lib.hid (slL_yes hc)
    obtain ⟨j, rfl⟩ := Int.eq_ofNat_of_zero_le k2.1
    have ej : (j : Int).toNat = j := rfl
    rw [ej] at hdr k3 k4
    obtain ⟨m, hm⟩ := Int.eq_ofNat_of_zero_le hpk.2.1
    obtain ⟨pk, hpk2⟩ := Int.eq_ofNat_of_zero_le hdr.2.1
    have hj : j < fs.length := by omega
    have hm12 : m ≤ 12 := by omega
    have hpl : pk < (fs.getD j noFn).outs.len := by omega
    subst hm
    subst hpk2
    have HL2 : Hid (slL fs (j : Int) (pk : Int) args dir (m : Int) = slS fs j pk args dir m) := HL.out
    have hl2 : dir.length = args.length := by have := areB_ln k3; have := areB_ln k4; omega
    have HR1 : Hid (∀ i, (s2L fs j (argI args dir i) dir).c = (alL fs j (argI args dir i) dir).c) := fun i => (s2_al k1 hj (argI_nums (areB_nm k3) i) (areB_nm k4) (by rw [argI_len]; exact hl2) (by rw [argI_len]; exact areB_ln k3)).1
    have HR2 : Hid (∀ i, (alL fs j (argI args dir i) dir).c = 0 → ((s2L fs j (argI args dir i) dir).l.getD pk []).getD 1 0 = ((alL fs j (argI args dir i) dir).l.getD pk (0, 0)).2) := by
      show ∀ i, _
      intro i h
      have e := ((s2_al k1 hj (argI_nums (areB_nm k3) i) (areB_nm k4) (by rw [argI_len]; exact hl2) (by rw [argI_len]; exact areB_ln k3)).2 h).2
      exact col_at e
    have HLE : Hid (∀ i, (s2L fs j (argI args dir i) dir).c = 0 → (s2L fs j (argI args dir i) dir).l.length = (fs.getD j noFn).outs.len) := fun i hc => lisE_len _ hc
    have HT := fun (W : World) (hW : Below w0.heap.size w0 W) (i ga cga : Nat) (hA : At W (some ⟨ga, 0, none⟩) (argI args dir i)) => Lib.hid (show Calls Tryz.prog 44 #[.pointer (some ⟨w.heap.size, 0, none⟩), .int .i64 j, .slice (some ⟨ga, 0, none⟩) args.length cga, .slice da dir.length cd, .int .i64 1] W (EvS 2 (fs.getD j noFn).outs.len W (s2L fs j (argI args dir i) dir)) from by
      have h := sTaylor 1 2 (by omega) (by omega) (by omega) fs w.heap.size 0 ap capp j (some ⟨ga, 0, none⟩) da cga cd (argI args dir i) dir W ((hW.cell (p := ⟨w.heap.size, 0, none⟩) (cell_lt c0)).trans c0) k1 hj hfl ((P0.below hW).mono (Nat.le_refl _) hW.size) hA (D0.below hW (Nat.le_refl _)) (by rw [argI_len]; exact hl2) (argI_nums (areB_nm k3) i) (areB_nm k4) (by rw [argI_len]; exact areB_ln k3)
      rw [argI_len] at h
      unfold s2L
      rw [argI_len]
      exact h)
    have HAD := fun (W : World) (hW : Below w0.heap.size w0 W) (i ga cga : Nat) (hA : At W (some ⟨ga, 0, none⟩) (argI args dir i)) => Lib.hid (show Calls Tryz.prog 54 #[.slice (some ⟨ga, 0, none⟩) args.length cga, .slice da dir.length cd] W (FreshN W args.length (argI args dir (i + 1))) from by
      rw [hl2]
      exact sAddN args.length (some ⟨ga, 0, none⟩) da cga cd (argI args dir i) dir W hA (D0.below hW (Nat.le_refl _)) (argI_nums (areB_nm k3) i) (areB_nm k4) (Lib.hid (argI_len _ _ _)) (Lib.hid hl2) hal)
    have HOW := fun (W : World) (hW : Below w0.heap.size w0 W) => Lib.hid (sOwnS b1 o1 ca args.length args W (A0.below hW (Nat.le_refl _)) rfl hal)
    have HST : Hid (∀ i, (slS fs j pk args dir i).c = 0 → (alL fs j (argI args dir i) dir).c = 0 → slS fs j pk args dir (i + 1) = ⟨(slS fs j pk args dir i).l ++ [((alL fs j (argI args dir i) dir).l.getD pk (0, 0)).2], 0, 0⟩) := fun i h h2 => slS_go h h2
    have HSB : Hid (∀ i k, (slS fs j pk args dir i).c = 0 → ¬ (alL fs j (argI args dir i) dir).c = 0 → slS fs j pk args dir (i + 1 + k) = ⟨[], 0, (alL fs j (argI args dir i) dir).c⟩) := fun i k h h2 => slS_bad h h2 k
    have HSL : Hid (∀ i, (slS fs j pk args dir i).c = 0 → (slS fs j pk args dir i).l.length = i) := fun i h => slS_len h
    have HS0 : Hid (slS fs j pk args dir 0 = ⟨[], 0, 0⟩) := rfl
    generalize slS fs j pk args dir = S at *
    obtain ⟨AL, hAL⟩ : ∃ AL : Nat → Rl IP, AL = fun i => alL fs j (argI args dir i) dir := ⟨_, rfl⟩
    obtain ⟨SL, hSL⟩ : ∃ SL : Nat → Rl (List Int), SL = fun i => s2L fs j (argI args dir i) dir := ⟨_, rfl⟩
    have eAL : ∀ i, alL fs j (argI args dir i) dir = AL i := fun i => by rw [hAL]
    have eSL : ∀ i, s2L fs j (argI args dir i) dir = SL i := fun i => by rw [hSL]
    have HST2 : Hid (∀ i, (S i).c = 0 → (AL i).c = 0 → S (i + 1) = ⟨(S i).l ++ [((AL i).l.getD pk (0, 0)).2], 0, 0⟩) := fun i h h2 => by have := HST.out i h (by rw [eAL]; exact h2); rw [eAL] at this; exact this
    have HSB2 : Hid (∀ i k, (S i).c = 0 → ¬ (AL i).c = 0 → S (i + 1 + k) = ⟨[], 0, (AL i).c⟩) := fun i k h h2 => by have := HSB.out i k h (by rw [eAL]; exact h2); rw [eAL] at this; exact this
    have HR3 : Hid (∀ i, (SL i).c = (AL i).c) := fun i => by have := HR1.out i; rw [eAL, eSL] at this; exact this
    have HR4 : Hid (∀ i, (AL i).c = 0 → ((SL i).l.getD pk []).getD 1 0 = ((AL i).l.getD pk (0, 0)).2) := fun i h => by have := HR2.out i (by rw [eAL]; exact h); rw [eAL, eSL] at this; exact this
    have HLE2 : Hid (∀ i, (SL i).c = 0 → (SL i).l.length = (fs.getD j noFn).outs.len) := fun i h => by have := HLE.out i (by rw [eSL]; exact h); rw [eSL] at this; exact this
    simp only [eSL] at HT
    have HWB := Lib.hid hb0
    clear HL HHC hc hpk hdr k1 k2 k3 k4 hin hP hA hD P0 A0 D0 c0 ej HST HSB HR1 HR2 HLE hAL hSL eAL eSL hl2 hb0
    generalize (fs.getD j noFn).outs.len = mo at *
    generalize args.length = n at *
    go_enter Tryz.func24, Tryz.ntmps24
    go_wp2_with fail
    clear hw0
    refine HS.out.mono ?_; rintro e w1 ⟨rfl, q, rfl⟩
    have hbq : Below w0.heap.size w0 ((w0.drewN q).alloc (.cells #[] 2)) := (below_drewN (Below.refl _ _) q).alloc (by simp) _
    have HOQ := HOW _ hbq
    have HO0' : Hid (Own w0.heap.size ((w0.drewN q).alloc (.cells #[] 2)) w0.heap.size 0 (S 0).l) := by
      rw [HS0.out]
      exact own_none (w0.drewN q) w0.heap.size (by simp)
    have HBQ := Lib.hid hbq
    have hsq : ((w0.drewN q).alloc (.cells #[] 2)).heap.size = w0.heap.size + 1 := by simp
    have HSQ := Lib.hid hsq
    clear HS HOW hbq hsq
    go_wp2_with fail
    refine (HIN _).out.mono ?_; rintro e w1 ⟨rfl, rfl⟩
    clear HIN
    go_wp2_with fail
    refine HOQ.out.mono ?_; rintro e w2 ⟨g2, c2, rfl, o2, b2⟩
    have hg2 := o2.base
    have hsq := HSQ.out
    have HO0 : Hid (Own w0.heap.size w2 w0.heap.size 0 (S 0).l) := HO0'.out.kept b2 (by rw [hsq]; omega)
    have HA0 : Hid (At w2 (some ⟨g2, 0, none⟩) (argI args dir 0)) := o2.at
    have HW0 : Hid (Below w0.heap.size w0 w2) := HBQ.out.trans (b2.mono HBQ.out.size)
    have HC0 : Hid ((S 0).c = 0) := by show _ = _; rw [HS0.out]
    have hne0 : g2 ≠ w0.heap.size := by omega
    have hlt0 := hg2.2
    have hji : (pk : Int) < (mo : Int) := by omega
    obtain ⟨i0, hi0, hz0, hz1, hz2⟩ := info_parts info64
    clear HOQ HO0' HBQ HSQ hsq o2 b2 hg2
    go_wp2_with fail
    go_loopw [15, 16, 17] (fun o a x wr => ∃ (i g cg ga cga : Nat), i ≤ m ∧ x = .int .i64 i ∧ o = .slice (some ⟨g, 0, none⟩) i cg ∧ a = .slice (some ⟨ga, 0, none⟩) n cga ∧ Hid ((S i).c = 0) ∧ Hid (Own w0.heap.size wr g cg (S i).l) ∧ Hid (At wr (some ⟨ga, 0, none⟩) (argI args dir i)) ∧ (ga ≠ g ∧ ga < wr.heap.size) ∧ Hid (Below w0.heap.size w0 wr)) (fun _ _ x _ => m - (intOf x).toNat)
    case atStart => exact ⟨0, w0.heap.size, 0, g2, c2, Nat.zero_le _, rfl, rfl, rfl, HC0.out, HO0.out, HA0.out, ⟨hne0, hlt0⟩, HW0.out⟩
    case round =>
      obtain ⟨i, g, cg, ga, cga, hi, rfl, rfl, rfl, HC, HO, HAT, ⟨hne, hga⟩, HW⟩ := hrel
      clear HC0 HO0 HA0 HW0 hne0 hlt0
      by_cases hlt : i < m
      · have hii : (i : Int) < (m : Int) := by omega
        have HTX := HT wr HW.out i ga cga HAT.out
        go_wp2_with fail
        refine HTX.out.mono ?_; rintro e w3 ⟨hb3, ⟨hcr, g5, kg, L, br, rfl, hbr, hbL, hO⟩ | ⟨hcr, g5, rfl⟩⟩
        · have hE := hO.en hbL
          have hlv : (SL i).l.length = mo := HLE2.out i hcr
          have hpl2 : pk < (SL i).l.length := by omega
          obtain ⟨b7, o7, e7, hb7, hlt7, hall⟩ := hE.rows.resolve_left (by intro e; rw [e] at hpl2; simp at hpl2)
          cases e7
          obtain ⟨a5, c5, hx, hls, _⟩ := hall pk hpl2
          rw [Nat.zero_add] at hx
          have hl5 := hE.len pk hpl2
          obtain ⟨b8, o8, rfl, hb8, hc8⟩ := hls.at_.resolve_left (by intro e; rw [e] at hl5; simp at hl5)
          have hy := hc8 1 (by omega)
          have hac : (AL i).c = 0 := by rw [← HR3.out i]; exact hcr
          rw [HR4.out i hac] at hy
          have hbf : ((SL i).c != 0) = false := by rw [hcr]; rfl
          have hSN : S (i + 1) = ⟨(S i).l ++ [((AL i).l.getD pk (0, 0)).2], 0, 0⟩ := HST2.out i HC.out hac
          have HC1 : Hid ((S (i + 1)).c = 0) := by show _ = _; rw [hSN]
          have HSN : Hid ((S i).l ++ [((AL i).l.getD pk (0, 0)).2] = (S (i + 1)).l) := by show _ = _; rw [hSN]
          have HXL : Hid ((S i).l.length = i) := HSL.out i HC.out
          have hO3 := HO.out.kept hb3 HO.out.base.2
          have hgb := hO3.base
          have ho2 : w3.ownsRow w0.heap.size 2 1 (.slice (some ⟨g, 0, none⟩) i cg) i ((S i).l.map (Value.int .i64)) := by
            have h := hO3
            unfold Own at h
            rw [HXL.out] at h
            exact h
          have HAT3 : Hid (At w3 (some ⟨ga, 0, none⟩) (argI args dir i)) := HAT.out.below hb3 (Nat.le_refl _)
          have HW3 : Hid (Below w0.heap.size w0 w3) := HW.out.trans (hb3.mono HW.out.size)
          have hz3 := hb3.size
          have h03 := HW3.out.size
          clear hE hO hall hls hc8 hcr hlv hSN hO3 hac HTX HO HAT HW HC hl5 hpl2 hb3
          generalize ((AL i).l.getD pk (0, 0)).2 = x at *
          generalize (S i).l = xs at *
          go_wp2_with (at_builtin; refine wpList_append_lies _ rfl _ _ _ rfl w0.heap.size 2 i0 _ 1 8 Tryz.underlying25 hi0 hz0 hz1 hz2 rfl (by omega) (.slice (some ⟨g, 0, none⟩) i cg) i (xs.map (Value.int .i64)) rfl (ho2.alloc _) ⟨w3.heap.size, 0, none⟩ 1 1 [.int .i64 x] rfl rfl (World.news_of_block (cs := #[.int .i64 x]) (t := 2) (fr := (0, 0)) (heap_alloc_new w3 _)) (by simp [Value.oneCell']) (by omega) (by unfold maxLen; omega) (by omega) (by simp; omega) (w3.heap.size + 1) (by simp) ?_; intro gg cc w4 hown4 hgrow hat hlt4)
          have hba : Below w3.heap.size w3 (w3.alloc (.cells #[.int .i64 x] 2)) := (Below.refl _ _).alloc (Nat.le_refl _) _
          have HO4 : Hid (Own w0.heap.size w4 gg cc (xs ++ [x])) := own_appended (by rw [HXL.out]; exact hown4)
          rw [HSN.out] at HO4
          have HB4 : Hid (Below w0.heap.size w0 w4) := below_grownE (g := g) (HW3.out.trans (hba.mono h03)) hgrow (Nat.le_refl _) hgb.1
          have k4 : Kp (fun b => b = g) w3 w4 := (Kp.of_below hba).trans (Pr.kpgrown hgrow (fun q hq => by simp [Value.ownBlock] at hq; exact hq.symm))
          have HAT4 : Hid (At w4 (some ⟨ga, 0, none⟩) (argI args dir i)) := HAT3.out.keptS k4 (fun b hb => by have := blk_eqE hb; omega)
          have HAX := HAD w4 HB4.out i ga cga HAT4.out
          have hg4 := HO4.out.base
          clear hown4 hgrow hat ho2 hx hy HAT3 HW3 HAT4 k4 HXL HSN hba
          go_wp2_with fail
          refine HAX.out.mono ?_; rintro e w6 ⟨g6, c6, rfl, o6, b6⟩
          have hg6 := o6.base
          have HO6 : Hid (Own w0.heap.size w6 gg cc (S (i + 1)).l) := HO4.out.kept b6 hg4.2
          have HA6 : Hid (At w6 (some ⟨g6, 0, none⟩) (argI args dir (i + 1))) := o6.at
          have HW6 : Hid (Below w0.heap.size w0 w6) := HB4.out.trans (b6.mono HB4.out.size)
          have hn6 : g6 ≠ gg ∧ g6 < w6.heap.size := ⟨by omega, hg6.2⟩
          clear HAX HO4 HB4 o6 b6 hg6 hg4
          go_wp2_with fail
          go_roundw
          case rel => exact ⟨i + 1, gg, cc, g6, c6, by omega, by go_num, rfl, rfl, HC1.out, HO6.out, HA6.out, hn6, HW6.out⟩
          case measure => simp [intOf]; omega
        · have hbf : ((SL i).c != 0) = true := by simp [hcr]
          have hac : ¬ (AL i).c = 0 := by rw [← HR3.out i]; exact hcr
          have e9 : S m = ⟨[], 0, (SL i).c⟩ := by
            have := HSB2.out i (m - i - 1) HC.out hac
            rw [show i + 1 + (m - i - 1) = m by omega] at this
            rw [this, HR3.out i]
          have HE9 := Lib.hid e9
          have HF : Hid (Below w.heap.size w w3) := HWB.out.trans ((HW.out.trans (hb3.mono HW.out.size)).mono HWB.out.size)
          have hsf := HF.out.size
          clear HTX e9 HO HAT HW hb3 hcr hac
          go_wp2_with fail
          go_ret2
          rw [HL2.out, HE9.out]
          exact LcM.no _ _ (HF.out.alloc hsf _)
      · have hii : ¬ (i : Int) < (m : Int) := by omega
        obtain rfl : i = m := by omega
        have HF : Hid (Below w.heap.size w wr) := HWB.out.trans (HW.out.mono HWB.out.size)
        have HXL : Hid ((S i).l.length = i) := HSL.out i HC.out
        have HX : Hid (At wr (some ⟨g, 0, none⟩) (S i).l) := HO.out.at
        clear HO HAT HW
        go_wp2_with fail
        go_ret2
        rw [HL2.out]
        exact ⟨some ⟨g, 0, none⟩, cg, by rw [HXL.out, HC.out]; rfl, HX.out, HF.out⟩
  · have HL := Lib.hid (slL_no hc)
    by_cases h1 : pkC fs f pick args dir = 0
    · have h2 : ¬ (0 ≤ count ∧ count ≤ 12) := fun h => hc (by rw [HHC.out, if_pos h1, if_pos h])
      have hcc : Hid (slC fs f pick args dir count = 2) := by show _ = _; rw [HHC.out, if_pos h1, if_neg h2]
      have hin : inB count 0 12 = false := by
        cases hb : inB count 0 12 with
        | false => rfl
        | true => exfalso; apply h2; unfold inB at hb; simp at hb; omega
      rw [hin] at HIN
      rw [h1] at HS
      clear HHC hc h1 h2 hin hP hA hD P0 A0 D0 c0
      go_enter Tryz.func24, Tryz.ntmps24
      go_wp2_with fail
      clear hw0
      refine HS.out.mono ?_; rintro e w1 ⟨rfl, q, rfl⟩
      go_wp2_with fail
      refine (HIN _).out.mono ?_; rintro e w1 ⟨rfl, rfl⟩
      go_wp2_with fail
      go_ret2
      rw [HL.out, hcc.out]
      exact LcM.no _ _ ((below_drewN hb0 q).alloc (by simp; omega) _)
    · have hcc : Hid (slC fs f pick args dir count = pkC fs f pick args dir) := by show _ = _; rw [HHC.out, if_neg h1]
      have hbf : (pkC fs f pick args dir == 0) = false := by simp [h1]
      have hbf2 : (pkC fs f pick args dir != 0) = true := by simp [h1]
      clear HHC hc h1 hP hA hD P0 A0 D0 c0 HIN
      generalize pkC fs f pick args dir = pc at *
      go_enter Tryz.func24, Tryz.ntmps24
      go_wp2_with fail
      clear hw0
      refine HS.out.mono ?_; rintro e w1 ⟨rfl, q, rfl⟩
      go_wp2_with fail
      go_ret2
      rw [HL.out, hcc.out]
      exact LcM.no _ _ ((below_drewN hb0 q).alloc (by simp; omega) _)

end Go.Proofs.YtoedccgiahegnaaGreat
