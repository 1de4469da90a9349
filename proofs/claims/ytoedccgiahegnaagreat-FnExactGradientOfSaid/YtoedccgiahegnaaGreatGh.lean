/- Taylor coefficients by the model, and the code for an output. Directional and Partial by the model. -/
import Derived.Test.YtoedccgiahegnaaGreatGp
import Derived.Test.YtoedccgiahegnaaGreatDp
namespace Go.Proofs.YtoedccgiahegnaaGreat
open Go.RowKit
set_option linter.unusedVariables false

set_option maxRecDepth 100000 in
set_option maxHeartbeats 3200000 in
theorem sTaylor (o : Int) (n : Nat) (ho : o + 1 = (n : Int)) (hn1 : 1 ≤ n) (hn13 : n ≤ 13) (fs : List Fn) (bp op : Nat) (ap : Option Addr) (capp : Nat) (j : Nat) (aa da : Option Addr) (ca cd : Nat) (args dir : List Int) (w : World)
    (hp : w.cell? ⟨bp, op, none⟩ = some (.slice ap fs.length capp)) (hpb : progB fs = true) (hj : j < fs.length) (hfl : fs.length ≤ 1048576) (hP : Pat w 0 w.heap.size fs ap) (hA : At w aa args) (hD : At w da dir) (hl : dir.length = args.length) (hN : Nums args) (hM : Nums dir) (hal : (args.length : Int) = (fs.getD j noFn).params) :
    Calls Tryz.prog 44 #[.pointer (some ⟨bp, op, none⟩), .int .i64 j, .slice aa args.length ca, .slice da dir.length cd, .int .i64 o] w (EvS n (fs.getD j noFn).outs.len w (lisE (sA n) (evE (sA n) fs 3001) (fs.getD j noFn).outs (lnT args dir n args.length) 0 (fs.getD j noFn).outs.len)) := by
  have hbp := cell_lt hp
  have hargs : args.length ≤ 12 := by obtain ⟨g1, _, _⟩ := fn_parts (progB_fn hpb hj); omega
  have HLN := Lib.hid (sLine n hn1 hn13 o ho bp aa da ca cd args dir w hbp hA hD hl hargs hN hM)
  have HEV := fun (g kg : Nat) (W : World) (hW : Below w.heap.size w W) (hO : Eo W w.heap.size bp (fun _ => False) n g kg args.length (lnT args dir n args.length)) => Lib.hid (show Calls Tryz.prog 77 #[.pointer (some ⟨bp, op, none⟩), .int .i64 j, .slice (some ⟨g, 0, none⟩) args.length kg, .int .i64 n] W (EvS n (fs.getD j noFn).outs.len W (lisE (sA n) (evE (sA n) fs 3001) (fs.getD j noFn).outs (lnT args dir n args.length) 0 (fs.getD j noFn).outs.len)) from by
    have h := sEval3 n hn1 hn13 fs bp op ap capp j bp (fun q => False ∨ w.heap.size ≤ q ∧ q < W.heap.size) (some ⟨g, 0, none⟩) kg (lnT args dir n args.length) W ((hW.cell (p := ⟨bp, op, none⟩) hbp).trans hp) hpb hj hfl ((hP.below hW).mono (Nat.le_refl _) hW.size) (hO.en hbp) (fun q hq => by rcases hq with hq | hq; cases hq; exact hq.2) (by rw [lnT_len]; exact hal)
    rw [lnT_len] at h
    exact h)
  clear hp hP hA hD hl hN hM hal
  generalize lisE (sA n) (evE (sA n) fs 3001) (fs.getD j noFn).outs (lnT args dir n args.length) 0 (fs.getD j noFn).outs.len = r at HEV ⊢
  generalize (fs.getD j noFn).outs.len = mo at *
  go_enter Tryz.func44, Tryz.ntmps44
  go_wp2_with fail
  refine HLN.out.mono ?_; rintro e w1 ⟨g, kg, rfl, hO, hb1⟩
  have HE1 := HEV g kg w1 hb1 hO
  clear HEV HLN hO
  go_wp2_with fail
  refine HE1.out.mono ?_; rintro e w2 ⟨hb2, ⟨hc, g2, kg2, L, br, rfl, hbr, hbL, ho2⟩ | ⟨hc, g2, rfl⟩⟩
  · go_wp2_with fail
    go_ret2
    have hs := hb1.size
    exact ⟨hb1.trans (hb2.mono hs), .inl ⟨hc, g2, kg2, L, br, rfl, by omega, hbL, ho2⟩⟩
  · go_wp2_with fail
    go_ret2
    have hs := hb1.size
    exact ⟨hb1.trans (hb2.mono hs), .inr ⟨hc, g2, rfl⟩⟩

/-- the code for a place, an output and a direction -/
def pkC (fs : List Fn) (f pick : Int) (args dir : List Int) : Int := if drC fs f args dir = 0 then (if 0 ≤ pick ∧ pick ≤ ((fs.getD f.toNat noFn).outs.len : Int) - 1 then 0 else 2) else drC fs f args dir
set_option maxRecDepth 100000 in
set_option maxHeartbeats 3200000 in
theorem sPickedH (fs : List Fn) (bp op : Nat) (ap : Option Addr) (capp : Nat) (f pick : Int) (aa da : Option Addr) (ca cd : Nat) (args dir : List Int) (w : World)
    (hp : w.cell? ⟨bp, op, none⟩ = some (.slice ap fs.length capp)) (hP : Pat w 0 w.heap.size fs ap) (hsz : pgSize fs ≤ 1048576) (hA : At w aa args) (hal : args.length ≤ 1048576) (hD : At w da dir) (hdl : dir.length ≤ 1048576) :
    Calls Tryz.prog 52 #[.pointer (some ⟨bp, op, none⟩), .int .i64 f, .int .i64 pick, .slice aa args.length ca, .slice da dir.length cd] w (Quiet (.int .i64 (pkC fs f pick args dir)) w) := by
  have HA := Lib.hid (sAsked3 fs bp op ap capp f aa da ca cd args dir w hp hP hsz hA hal hD hdl)
  by_cases h0 : drC fs f args dir = 0
  · have HPK : Hid (pkC fs f pick args dir = if 0 ≤ pick ∧ pick ≤ ((fs.getD f.toNat noFn).outs.len : Int) - 1 then 0 else 2) := if_pos h0
    obtain ⟨k1, k2, k3⟩ := plC_known (drC_known h0).1
    rw [h0] at HA
    generalize pkC fs f pick args dir = pc at *
    obtain ⟨j, rfl⟩ := Int.eq_ofNat_of_zero_le k2.1
    rw [show (j : Int).toNat = j from rfl] at HPK
    have hj : j < fs.length := by omega
    have hji : (j : Int) < (fs.length : Int) := by omega
    obtain ⟨bf, of, rfl, hbB, hall⟩ := hP.resolve_left (by intro e; rw [e] at hj; simp at hj)
    obtain ⟨hrr, af, cf, f0, f1, f2, hFo⟩ := hall j hj
    have HI := fun W => Lib.hid (sIn pick 0 (((fs.getD j noFn).outs.len : Int) - 1) W)
    have hol : (fs.getD j noFn).outs.len ≤ 12 := (fn_parts (progB_fn k1 hj)).2.1.2
    clear k1 k2 k3 hall hrr f0 f1 hFo hP hA hD h0
    generalize (fs.getD j noFn).outs.len = mo at *
    by_cases h1 : 0 ≤ pick ∧ pick ≤ (mo : Int) - 1
    · have HP0 : Hid (pc = 0) := by show _ = _; rw [HPK.out, if_pos h1]
      have hi1 : inB pick 0 ((mo : Int) - 1) = true := by unfold inB; simp; omega
      rw [hi1] at HI
      clear HPK h1 hi1
      go_enter Tryz.func52, Tryz.ntmps52
      go_wp2_with fail
      refine HA.out.mono ?_; rintro e w1 ⟨rfl, q, rfl⟩
      have f2' : (w.drewN q).cell? ⟨bf, of + j * 3 + 2, none⟩ = some (.slice af mo cf) := f2
      have hp' : (w.drewN q).cell? ⟨bp, op, none⟩ = some (.slice (some ⟨bf, of, none⟩) fs.length capp) := hp
      go_wp2_with fail
      refine (HI _).out.mono ?_; rintro e w1 ⟨rfl, rfl⟩
      go_wp2_with fail
      go_ret
      exact ⟨ret_int HP0.out.symm, q, rfl⟩
    · have HP0 : Hid (pc = 2) := by show _ = _; rw [HPK.out, if_neg h1]
      have hi1 : inB pick 0 ((mo : Int) - 1) = false := by
        cases hb : inB pick 0 ((mo : Int) - 1) with
        | false => rfl
        | true => exfalso; apply h1; unfold inB at hb; simp at hb; omega
      rw [hi1] at HI
      clear HPK h1 hi1
      go_enter Tryz.func52, Tryz.ntmps52
      go_wp2_with fail
      refine HA.out.mono ?_; rintro e w1 ⟨rfl, q, rfl⟩
      have f2' : (w.drewN q).cell? ⟨bf, of + j * 3 + 2, none⟩ = some (.slice af mo cf) := f2
      have hp' : (w.drewN q).cell? ⟨bp, op, none⟩ = some (.slice (some ⟨bf, of, none⟩) fs.length capp) := hp
      go_wp2_with fail
      refine (HI _).out.mono ?_; rintro e w1 ⟨rfl, rfl⟩
      go_wp2_with fail
      go_ret
      exact ⟨ret_int HP0.out.symm, q, rfl⟩
  · have HPK : Hid (pkC fs f pick args dir = drC fs f args dir) := if_neg h0
    have hbf : (drC fs f args dir == 0) = false := by simp [h0]
    rw [← HPK.out] at HA hbf
    clear HPK
    generalize pkC fs f pick args dir = pc at *
    go_enter Tryz.func52, Tryz.ntmps52
    go_wp2_with fail
    refine HA.out.mono ?_; rintro e w1 ⟨rfl, q, rfl⟩
    go_wp2_with fail
    go_ret
    exact ⟨rfl, q, rfl⟩

end Go.Proofs.YtoedccgiahegnaaGreat

namespace Go.Proofs.YtoedccgiahegnaaGreat
open Go.RowKit
set_option linter.unusedVariables false

/-- values and slopes by series of two -/
def s2L (fs : List Fn) (j : Nat) (args dir : List Int) : Rl (List Int) := lisE (sA 2) (evE (sA 2) fs 3001) (fs.getD j noFn).outs (lnT args dir 2 args.length) 0 (fs.getD j noFn).outs.len
theorem s2_al {fs : List Fn} {j : Nat} {args dir : List Int} (hpb : progB fs = true) (hj : j < fs.length) (hN : Nums args) (hM : Nums dir) (hl : dir.length = args.length) (hal : (args.length : Int) = (fs.getD j noFn).params) :
    (s2L fs j args dir).c = (alL fs j args dir).c ∧ ((alL fs j args dir).c = 0 → colL 0 (s2L fs j args dir).l = (alL fs j args dir).l.map Prod.fst ∧ colL 1 (s2L fs j args dir).l = (alL fs j args dir).l.map Prod.snd) := by
  have h := pairs_rel hpb hj hN hM hl hal
  refine ⟨h.c.symm, fun hc => ?_⟩
  obtain ⟨h1, h2, _⟩ := cols_rel (h.l hc)
  exact ⟨h1, h2⟩
def DrM (w : World) (r : Rl IP) (e : Ending) (w' : World) : Prop :=
  ∃ a ca b cb, e = .returned (.tuple #[.slice a (drA r).length ca, .slice b (drB r).length cb, .int .i64 r.c]) ∧ At w' a (drA r) ∧ At w' b (drB r) ∧ Below w.heap.size w w'
theorem DrM.fail {w w' : World} {r : Rl IP} {a b : Option Addr} {ca cb : Nat} (h : ¬ r.c = 0) (hb : Below w.heap.size w w') : DrM w r (.returned (.tuple #[.slice a 0 ca, .slice b 0 cb, .int .i64 r.c])) w' :=
  ⟨a, ca, b, cb, by rw [drA_no h, drB_no h]; rfl, .inl (drA_no h), .inl (drB_no h), hb⟩

set_option maxRecDepth 100000 in
set_option maxHeartbeats 3200000 in
theorem sDirectional (fs : List Fn) (ap : Option Addr) (capp : Nat) (f : Int) (aa da : Option Addr) (ca cd : Nat) (args dir : List Int) (w : World) (hP : Pat w 0 w.heap.size fs ap) (hsz : pgSize fs ≤ 1048576) (hA : At w aa args) (hal : args.length ≤ 1048576) (hD : At w da dir) (hdl : dir.length ≤ 1048576) :
    Calls Tryz.prog 20 #[.agg #[.slice ap fs.length capp], .int .i64 f, .slice aa args.length ca, .slice da dir.length cd] w (DrM w (drL fs f args dir)) := by
  have hfl : fs.length ≤ 1048576 := by unfold pgSize at hsz; omega
  obtain ⟨w0, hw0⟩ : ∃ w0, w.alloc (.cells #[.slice ap fs.length capp] 31) = w0 := ⟨_, rfl⟩
  have hb0 : Below w.heap.size w w0 := by rw [← hw0]; exact (Below.refl _ _).alloc (Nat.le_refl _) _
  have P0 := (hP.below hb0).mono (Nat.le_refl _) hb0.size
  have A0 := hA.below hb0 (Nat.le_refl _)
  have D0 := hD.below hb0 (Nat.le_refl _)
  have c0 : w0.cell? ⟨w.heap.size, 0, none⟩ = some (.slice ap fs.length capp) := by rw [← hw0]; simp [go_sem]
  have HS := Lib.hid (sAsked3 fs w.heap.size 0 ap capp f aa da ca cd args dir w0 c0 P0 hsz A0 hal D0 hdl)
  by_cases hc : drC fs f args dir = 0
  · obtain ⟨h1, k4⟩ := drC_known hc
    obtain ⟨k1, k2, k3⟩ := plC_known h1
    rw [hc] at HS
    obtain ⟨j, rfl⟩ := Int.eq_ofNat_of_zero_le k2.1
    have ej : (j : Int).toNat = j := rfl
    rw [ej] at k3 k4
    have hj : j < fs.length := by omega
    have hl2 : dir.length = args.length := by have := areB_ln k3; have := areB_ln k4; omega
    have HE : Hid (drL fs (j : Int) args dir = alL fs j args dir) := drL_yes hc
    obtain ⟨r1, r2⟩ := s2_al k1 hj (areB_nm k3) (areB_nm k4) hl2 (areB_ln k3)
    have HT := fun (q : Nat) => Lib.hid (show Calls Tryz.prog 44 #[.pointer (some ⟨w.heap.size, 0, none⟩), .int .i64 j, .slice aa args.length ca, .slice da dir.length cd, .int .i64 1] (w0.drewN q) (EvS 2 (fs.getD j noFn).outs.len (w0.drewN q) (s2L fs j args dir)) from sTaylor 1 2 (by omega) (by omega) (by omega) fs w.heap.size 0 ap capp j aa da ca cd args dir (w0.drewN q) c0 k1 hj hfl (P0.below (below_drewN (Below.refl _ _) q)) (A0.drewN q) (D0.drewN q) hl2 (areB_nm k3) (areB_nm k4) (areB_ln k3))
    have HLE : Hid ((s2L fs j args dir).c = 0 → (s2L fs j args dir).l.length = (fs.getD j noFn).outs.len) := lisE_len _
    have hol : (fs.getD j noFn).outs.len ≤ 12 := (fn_parts (progB_fn k1 hj)).2.1.2
    generalize s2L fs j args dir = s at *
    generalize alL fs j args dir = r at *
    generalize (fs.getD j noFn).outs.len = mo at *
    have HR1 := Lib.hid r1
    have HR2 := Lib.hid r2
    have HLN := Lib.hid hl2
    clear r1 r2 k1 k2 k3 k4 h1 hP hA hD P0 A0 D0 c0 ej hc hl2
    go_enter Tryz.func20, Tryz.ntmps20
    go_wp2_with fail
    clear hw0
    refine HS.out.mono ?_; rintro e w1 ⟨rfl, q, rfl⟩
    have HTQ := HT q
    clear HT HS
    go_wp2_with fail
    refine HTQ.out.mono ?_; rintro e w2 ⟨hb2, ⟨hcr, g, kg, L, br, rfl, hbr, hbL, hO⟩ | ⟨hcr, g, rfl⟩⟩
    · have HB2 : Hid (Below w.heap.size w w2) := hb0.trans ((below_drewN (Below.refl w0.heap.size w0) q).trans (hb2.mono (Nat.le_refl _)) |>.mono hb0.size)
      have hlv := HLE.out hcr
      have HE2 := Lib.hid (hO.en hbL)
      have hbf : (s.c != 0) = false := by rw [hcr]; rfl
      have HC0 := fun W (hW : Below w2.heap.size w2 W) => Lib.hid (sColumnE 0 2 (by omega) br _ (some ⟨g, 0, none⟩) kg s.l W (HE2.out.next hW) (by omega))
      have HC1 := fun W (hW : Below w2.heap.size w2 W) => Lib.hid (sColumnE 1 2 (by omega) br _ (some ⟨g, 0, none⟩) kg s.l W (HE2.out.next hW) (by omega))
      rw [hlv] at HC0 HC1
      have HCR := Lib.hid hcr
      clear hO HLE hb2 hcr HTQ
      go_wp2_with fail
      refine (HC0 _ (Below.refl _ _)).out.mono ?_; rintro e w3 ⟨g3, c3, rfl, o3, b3⟩
      have HC4 := HC1 w3 b3
      clear HC0 HC1
      go_wp2_with fail
      refine HC4.out.mono ?_; rintro e w4 ⟨g4, c4, rfl, o4, b4⟩
      have hs2 := HB2.out.size
      have hs3 := b3.size
      have HX : Hid (DrM w (drL fs (j : Int) args dir) (.returned (.tuple #[.slice (some ⟨g3, 0, none⟩) mo c3, .slice (some ⟨g4, 0, none⟩) mo c4, .int .i64 0])) w4) := by
        show DrM _ _ _ _
        rw [HE.out]
        have hc0 : r.c = 0 := by rw [← HR1.out]; exact HCR.out
        obtain ⟨e1, e2⟩ := HR2.out hc0
        have ea : drA r = colL 0 s.l := (if_pos hc0).trans e1.symm
        have eb : drB r = colL 1 s.l := (if_pos hc0).trans e2.symm
        exact ⟨_, c3, _, c4, by rw [ea, eb, colL_len, colL_len, hlv, hc0], by rw [ea]; exact o3.at.below b4 (Nat.le_refl _), by rw [eb]; exact o4.at, HB2.out.trans ((b3.trans (b4.mono hs3)).mono hs2)⟩
      clear HC4 o3 o4
      go_wp2_with fail
      go_ret3
      exact HX.out
    · have hbf : (s.c != 0) = true := by simp [hcr]
      have HB2 : Hid (Below w.heap.size w w2) := hb0.trans ((below_drewN (Below.refl w0.heap.size w0) q).trans (hb2.mono (Nat.le_refl _)) |>.mono hb0.size)
      have hs2 := HB2.out.size
      have HCR := Lib.hid hcr
      clear HTQ hcr
      go_wp2_with fail
      go_ret3
      rw [HE.out, HR1.out]
      exact DrM.fail (by rw [← HR1.out]; exact HCR.out) ((HB2.out.alloc hs2 _).alloc (by simp; omega) _)
  · have hbf : (drC fs f args dir != 0) = true := by simp [hc]
    have HL := Lib.hid (drL_no hc)
    have HNC := Lib.hid hc
    clear hc hP hA hD P0 A0 D0 c0
    generalize drC fs f args dir = pc at *
    go_enter Tryz.func20, Tryz.ntmps20
    go_wp2_with fail
    clear hw0
    refine HS.out.mono ?_; rintro e w1 ⟨rfl, q, rfl⟩
    have hs0 := hb0.size
    go_wp2_with fail
    go_ret3
    rw [HL.out]
    exact DrM.fail HNC.out (((below_drewN hb0 q).alloc (by simp; omega) _).alloc (by simp; omega) _)

set_option maxRecDepth 100000 in
set_option maxHeartbeats 1600000 in
theorem sUnit (n k : Nat) (hk : k < n) (hb : n ≤ 1048576) (w : World) :
    Calls Tryz.prog 49 #[.int .i64 n, .int .i64 k] w fun e w' => ∃ g, e = .returned (.slice (some ⟨g, 0, none⟩) n n) ∧ Own w.heap.size w' g n (unitV n k) ∧ Below w.heap.size w w' := by
  obtain ⟨i0, hi, hz0, hz1, hz2⟩ := info_parts info64
  go_enter Tryz.func49, Tryz.ntmps49
  go_wp2_with (refine wpList_make_full _ rfl _ _ 25 rfl w.heap.size 2 i0 (.int .i64 0) 1 Tryz.underlying25 hi hz0 hz1 .i64 .i64 _ _ n rfl rfl rfl rfl ?c2 ?c3 (Nat.le_refl _) ?_)
  case c2 => rw [hz2]; omega
  case c3 => unfold maxLen; omega
  intro w1 ho1 hg1
  have hb1 := (Below.refl w.heap.size w).grown hg1 (Nat.le_refl _) (by intro k hk; cases hk)
  have ho2 := made_own ho1
  have hl : (fillz n ([] : List Int)).length = n := fillz_len (by simp)
  have hcs := ho2.cellAt k (by rw [hl]; exact hk)
  have hfr := ho2.frz k
  have HS := Lib.hid (ho2.set k 1)
  have hi1 : (k : Int) < (n : Int) := by omega
  have HB : Hid (Below w.heap.size w (w1.setCell ⟨w.heap.size, k, none⟩ (.int .i64 1))) := hb1.setCell (p := ⟨w.heap.size, k, none⟩) (Nat.le_refl _) _
  have HU : Hid ((fillz n ([] : List Int)).set k 1 = unitV n k) := by show _ = _; simp [fillz, unitV]
  clear ho1 hg1 hi hz0 hz1 hz2 ho2 hb1 hl
  generalize (fillz n ([] : List Int)).getD k 0 = z at hcs
  go_wp2_with fail
  go_ret
  exact ⟨w.heap.size, rfl, by rw [← HU.out]; exact HS.out, HB.out⟩

def LcM (w : World) (L : List Int) (c : Int) (e : Ending) (w' : World) : Prop := ∃ a ca, e = .returned (.tuple #[.slice a L.length ca, .int .i64 c]) ∧ At w' a L ∧ Below w.heap.size w w'
theorem LcM.fail {w w' : World} {r : Rl IP} {a : Option Addr} {ca : Nat} (h : ¬ r.c = 0) (hb : Below w.heap.size w w') : LcM w (drB r) r.c (.returned (.tuple #[.slice a 0 ca, .int .i64 r.c])) w' :=
  ⟨a, ca, by rw [drB_no h]; rfl, .inl (drB_no h), hb⟩

set_option maxRecDepth 100000 in
set_option maxHeartbeats 3200000 in
theorem sPartial (fs : List Fn) (ap : Option Addr) (capp : Nat) (f param : Int) (aa : Option Addr) (ca : Nat) (args : List Int) (w : World) (hP : Pat w 0 w.heap.size fs ap) (hsz : pgSize fs ≤ 1048576) (hA : At w aa args) (hal : args.length ≤ 1048576) :
    Calls Tryz.prog 22 #[.agg #[.slice ap fs.length capp], .int .i64 f, .int .i64 param, .slice aa args.length ca] w (LcM w (drB (paL fs f param args)) (paL fs f param args).c) := by
  have hfl : fs.length ≤ 1048576 := by unfold pgSize at hsz; omega
  obtain ⟨w0, hw0⟩ : ∃ w0, w.alloc (.cells #[.slice ap fs.length capp] 31) = w0 := ⟨_, rfl⟩
  have hb0 : Below w.heap.size w w0 := by rw [← hw0]; exact (Below.refl _ _).alloc (Nat.le_refl _) _
  have P0 := (hP.below hb0).mono (Nat.le_refl _) hb0.size
  have A0 := hA.below hb0 (Nat.le_refl _)
  have c0 : w0.cell? ⟨w.heap.size, 0, none⟩ = some (.slice ap fs.length capp) := by rw [← hw0]; simp [go_sem]
  have HS := Lib.hid (sArgs fs w.heap.size 0 ap capp f aa ca args w0 c0 P0 hsz A0 hal)
  have HIN := fun W => Lib.hid (sIn param 0 ((args.length : Int) - 1) W)
  have hs0 := hb0.size
  by_cases h1 : plC fs f args = 0
  · obtain ⟨k1, k2, k3⟩ := plC_known h1
    rw [h1] at HS
    obtain ⟨j, rfl⟩ := Int.eq_ofNat_of_zero_le k2.1
    have ej : (j : Int).toNat = j := rfl
    rw [ej] at k3
    have hj : j < fs.length := by omega
    have hPC : paC fs (j : Int) param args = if 0 ≤ param ∧ param < (fs.getD j noFn).params then 0 else 2 := if_pos h1
    rw [← areB_ln k3] at hPC
    by_cases hq : 0 ≤ param ∧ param < (args.length : Int)
    · have hc : paC fs (j : Int) param args = 0 := by rw [hPC, if_pos hq]
      have hin : inB param 0 ((args.length : Int) - 1) = true := by unfold inB; simp; omega
      rw [hin] at HIN
      obtain ⟨k, rfl⟩ := Int.eq_ofNat_of_zero_le hq.1
      have ek : (k : Int).toNat = k := rfl
      have hk : k < args.length := by omega
      have HE : Hid (paL fs (j : Int) (k : Int) args = alL fs j args (unitV args.length k)) := paL_yes hc
      have hul := unitV_len args.length k
      obtain ⟨r1, r2⟩ := s2_al k1 hj (areB_nm k3) (unitV_nums args.length k) hul (areB_ln k3)
      have HU := fun W => Lib.hid (sUnit args.length k hk hal W)
      have HT := fun (W : World) (hW : Below w0.heap.size w0 W) (g : Nat) (ho : Own w0.heap.size W g args.length (unitV args.length k)) => Lib.hid (show Calls Tryz.prog 44 #[.pointer (some ⟨w.heap.size, 0, none⟩), .int .i64 j, .slice aa args.length ca, .slice (some ⟨g, 0, none⟩) args.length args.length, .int .i64 1] W (EvS 2 (fs.getD j noFn).outs.len W (s2L fs j args (unitV args.length k))) from by
        have h := sTaylor 1 2 (by omega) (by omega) (by omega) fs w.heap.size 0 ap capp j aa (some ⟨g, 0, none⟩) ca args.length args (unitV args.length k) W ((hW.cell (p := ⟨w.heap.size, 0, none⟩) (cell_lt c0)).trans c0) k1 hj hfl ((P0.below hW).mono (Nat.le_refl _) hW.size) (A0.below hW (Nat.le_refl _)) ho.at hul (areB_nm k3) (unitV_nums _ _) (areB_ln k3)
        rw [hul] at h
        exact h)
      have HLE : Hid ((s2L fs j args (unitV args.length k)).c = 0 → (s2L fs j args (unitV args.length k)).l.length = (fs.getD j noFn).outs.len) := lisE_len _
      have hol : (fs.getD j noFn).outs.len ≤ 12 := (fn_parts (progB_fn k1 hj)).2.1.2
      generalize s2L fs j args (unitV args.length k) = s at *
      generalize alL fs j args (unitV args.length k) = r at *
      generalize (fs.getD j noFn).outs.len = mo at *
      have HR1 := Lib.hid r1
      have HR2 := Lib.hid r2
      clear r1 r2 k1 k2 k3 h1 hP hA P0 A0 c0 ej hc hul hPC hin ek
      generalize args.length = n at *
      go_enter Tryz.func22, Tryz.ntmps22
      go_wp2_with fail
      clear hw0
      refine HS.out.mono ?_; rintro e w1 ⟨rfl, q, rfl⟩
      clear HS
      go_wp2_with fail
      refine (HIN _).out.mono ?_; rintro e w1 ⟨rfl, rfl⟩
      clear HIN
      go_wp2_with fail
      refine (HU _).out.mono ?_; rintro e w1 ⟨g1, rfl, o1', b1'⟩
      have b1 : Below w0.heap.size w0 w1 := ⟨b1'.os, b1'.tape, b1'.output, b1'.size, b1'.block⟩
      have HTQ := HT w1 b1 g1 o1'
      clear HT HU o1' b1'
      go_wp2_with fail
      refine HTQ.out.mono ?_; rintro e w2 ⟨hb2, ⟨hcr, g, kg, L, br, rfl, hbr, hbL, hO⟩ | ⟨hcr, g, rfl⟩⟩
      · have HB2 : Hid (Below w.heap.size w w2) := hb0.trans ((b1.trans (hb2.mono b1.size)).mono hs0)
        have hlv := HLE.out hcr
        have hbf : (s.c != 0) = false := by rw [hcr]; rfl
        have HC1 := Lib.hid (sColumnE 1 2 (by omega) br _ (some ⟨g, 0, none⟩) kg s.l w2 (hO.en hbL) (by omega))
        rw [hlv] at HC1
        have HCR := Lib.hid hcr
        clear hO HLE hb2 hcr HTQ
        go_wp2_with fail
        refine HC1.out.mono ?_; rintro e w4 ⟨g4, c4, rfl, o4, b4⟩
        have hs2 := HB2.out.size
        have HX : Hid (LcM w (drB (paL fs (j : Int) (k : Int) args)) (paL fs (j : Int) (k : Int) args).c (.returned (.tuple #[.slice (some ⟨g4, 0, none⟩) mo c4, .int .i64 0])) w4) := by
          show LcM _ _ _ _ _
          rw [HE.out]
          have hc0 : r.c = 0 := by rw [← HR1.out]; exact HCR.out
          obtain ⟨e1, e2⟩ := HR2.out hc0
          have eb : drB r = colL 1 s.l := (if_pos hc0).trans e2.symm
          exact ⟨_, c4, by rw [eb, colL_len, hlv, hc0], by rw [eb]; exact o4.at, HB2.out.trans (b4.mono hs2)⟩
        clear HC1 o4
        go_wp2_with fail
        go_ret2
        exact HX.out
      · have hbf : (s.c != 0) = true := by simp [hcr]
        have HB2 : Hid (Below w.heap.size w w2) := hb0.trans ((b1.trans (hb2.mono b1.size)).mono hs0)
        have hs2 := HB2.out.size
        have HCR := Lib.hid hcr
        clear HTQ hcr hb2
        go_wp2_with fail
        go_ret2
        rw [HE.out, HR1.out]
        exact LcM.fail (by rw [← HR1.out]; exact HCR.out) (HB2.out.alloc hs2 _)
    · have hc : paC fs (j : Int) param args = 2 := by rw [hPC, if_neg hq]
      have HL : Hid (paL fs (j : Int) param args = ⟨[], 0, 2⟩) := by show _ = _; rw [paL_no (by rw [hc]; decide), hc]
      have hin : inB param 0 ((args.length : Int) - 1) = false := by
        cases hb : inB param 0 ((args.length : Int) - 1) with
        | false => rfl
        | true => exfalso; apply hq; unfold inB at hb; simp at hb; omega
      rw [hin] at HIN
      clear hq hP hA P0 A0 c0 k1 k2 k3 h1 ej hPC hin hc
      generalize args.length = n at *
      go_enter Tryz.func22, Tryz.ntmps22
      go_wp2_with fail
      clear hw0
      refine HS.out.mono ?_; rintro e w1 ⟨rfl, q, rfl⟩
      clear HS
      go_wp2_with fail
      refine (HIN _).out.mono ?_; rintro e w1 ⟨rfl, rfl⟩
      go_wp2_with fail
      go_ret2
      rw [HL.out]
      exact LcM.fail (show ¬ (2 : Int) = 0 by decide) ((below_drewN hb0 q).alloc (by simp; omega) _)
  · have hc : paC fs f param args = plC fs f args := if_neg h1
    have HL : Hid (paL fs f param args = ⟨[], 0, plC fs f args⟩) := by show _ = _; rw [paL_no (by rw [hc]; exact h1), hc]
    have hbf : (plC fs f args != 0) = true := by simp [h1]
    have hbe : (plC fs f args == 0) = false := by simp [h1]
    have HN := Lib.hid h1
    clear h1 hP hA P0 A0 c0 hc HIN
    generalize plC fs f args = pc at *
    generalize args.length = n at *
    go_enter Tryz.func22, Tryz.ntmps22
    go_wp2_with fail
    clear hw0
    refine HS.out.mono ?_; rintro e w1 ⟨rfl, q, rfl⟩
    go_wp2_with fail
    go_ret2
    rw [HL.out]
    exact LcM.fail HN.out ((below_drewN hb0 q).alloc (by simp; omega) _)

end Go.Proofs.YtoedccgiahegnaaGreat
