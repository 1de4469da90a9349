/- The program's evaluation with numbers: what it keeps and answers; lists of expressions. -/
import Derived.Test.YtemmbacdilepgaaGreatEa
import Derived.Test.YtemmbacdilepgaaGreatEo
import Derived.Test.YtemmbacdilepgaaGreatNfn
import Derived.Test.YtemmbacdilepgaaGreatCkr
import Derived.Deep.RegionWith
namespace Go.Proofs.YtemmbacdilepgaaGreat
open Go.RowKit
set_option linter.unusedVariables false

theorem Kp.alloc {S : Nat → Prop} {w w' : World} (h : Kp S w w') (o : Obj) : Kp S w (w'.alloc o) := by
  have hb := (Below.refl w'.heap.size w').alloc (Nat.le_refl _) o
  exact h.trans (Kp.of_below hb)
theorem Kp.newBlock {S : Nat → Prop} {w w' : World} (h : Kp S w w') {p : Addr} (hp : w.heap.size ≤ p.block) (v : Value) : Kp S w (w'.setCell p v) :=
  ⟨h.os, h.tape, h.output, by simpa using h.size, fun i hi hn => (Below.heap_setCell _ _ _ _ (by omega)).trans (h.block i hi hn)⟩
theorem Kp.more {S : Nat → Prop} {w w' w2 : World} (h : Kp S w w') (hb : Below w'.heap.size w' w2) : Kp S w w2 := h.trans (Kp.of_below hb)
/-- where the evaluation keeps its fields -/
structure EvAt (w : World) (bv : Nat) (ap : Option Addr) (fl capp s : Nat) : Prop where
  c0 : w.cell? ⟨bv, 0, none⟩ = some ofN
  c1 : w.cell? ⟨bv, 1, none⟩ = some (.slice ap fl capp)
  c2 : w.cell? ⟨bv, 2, none⟩ = some (.int .i64 s)
  fz : ∀ o, w.frozen? ⟨bv, o, none⟩ = false
theorem EvAt.next {w w' : World} {bv : Nat} {ap : Option Addr} {fl capp s : Nat} (h : EvAt w bv ap fl capp s) (hb : Below w.heap.size w w') : EvAt w' bv ap fl capp s := by
  have hl := cell_lt h.c0
  exact ⟨(hb.cell (p := ⟨bv, 0, none⟩) hl).trans h.c0, (hb.cell (p := ⟨bv, 1, none⟩) hl).trans h.c1, (hb.cell (p := ⟨bv, 2, none⟩) hl).trans h.c2, fun o => (hb.frozen (p := ⟨bv, o, none⟩) hl).trans (h.fz o)⟩
theorem EvAt.other {w : World} {bv : Nat} {ap : Option Addr} {fl capp s : Nat} (h : EvAt w bv ap fl capp s) {p : Addr} (hp : p.block ≠ bv) (v : Value) : EvAt (w.setCell p v) bv ap fl capp s := by
  have e : ∀ o, (w.setCell p v).cell? ⟨bv, o, none⟩ = w.cell? ⟨bv, o, none⟩ := fun o => World.cell?_setCell_other _ _ _ _ (by intro e; apply hp; rw [e])
  exact ⟨(e 0).trans h.c0, (e 1).trans h.c1, (e 2).trans h.c2, fun o => (World.frozen?_setCell _ _ _ _).trans (h.fz o)⟩
/-- a list that lies elsewhere -/
structure Ls (w : World) (bv : Nat) (a : Option Addr) (l : List Int) : Prop where
  at_ : At w a l
  ne : ∀ g, blk a l = some g → g ≠ bv
theorem Ls.keep {w w' : World} {bv : Nat} {a : Option Addr} {l : List Int} (h : Ls w bv a l) (k : Kp (fun b => b = bv) w w') : Ls w' bv a l := by
  refine ⟨?_, h.ne⟩
  by_cases hl : l = []
  · exact .inl hl
  · obtain ⟨b, off, rfl, hb, hc⟩ := h.at_.resolve_left hl
    have hne : ¬ b = bv := h.ne b (by simp [blk, hl])
    exact .inr ⟨b, off, rfl, Nat.lt_of_lt_of_le hb k.size, fun i hi => k.cell (hc i hi) hne⟩
theorem blk_eqE {r : Nat} {l : List Int} {g : Nat} (h : blk (some ⟨r, 0, none⟩) l = some g) : g = r := by
  unfold blk at h
  split at h
  · cases h
  · simpa using h.symm
theorem Own.ls {L : Nat} {w : World} {g cap bv : Nat} {l : List Int} (h : Own L w g cap l) (hb : bv < L) : Ls w bv (some ⟨g, 0, none⟩) l :=
  ⟨h.at, fun g' hg => by have := h.base; have e := blk_eqE hg; omega⟩
theorem Own.keepE {L : Nat} {w w' : World} {g cap bv : Nat} {l : List Int} (h : Own L w g cap l) (k : Kp (fun b => b = bv) w w') (hb : g ≠ bv) : Own L w' g cap l :=
  OwR.keep h.owr k (fun p hp => by cases hp; exact hb)
theorem Pat.keepE {w w' : World} {B bv : Nat} {fs : List Fn} {ap : Option Addr} (h : Pat w 0 B fs ap) (k : Kp (fun b => b = bv) w w') (hB : B ≤ bv) (hw : bv < w.heap.size) : Pat w' 0 B fs ap := h.agree (fun i _ h2 => k.block i (by omega) (by omega))
theorem Fat.keepE {w w' : World} {B bv : Nat} {f : Fo} {a : Option Addr} (h : Fat w 0 B f a) (k : Kp (fun b => b = bv) w w') (hB : B ≤ bv) (hw : bv < w.heap.size) : Fat w' 0 B f a := h.agree (fun i _ h2 => k.block i (by omega) (by omega))

/-- a value is answered -/
def VRes (bv : Nat) (ap : Option Addr) (fl capp : Nat) (w : World) (r : Rv Int) (e : Ending) (w' : World) : Prop :=
  Kp (fun b => b = bv) w w' ∧ EvAt w' bv ap fl capp r.s ∧ ∃ v, e = .returned (.tuple #[.int .i64 v, .int .i64 r.c]) ∧ (r.c = 0 → v = r.v ∧ 0 ≤ v ∧ v < 1000003)
/-- a list of values is answered -/
def LRes (bv : Nat) (ap : Option Addr) (fl capp : Nat) (w : World) (r : Rl Int) (e : Ending) (w' : World) : Prop :=
  Kp (fun b => b = bv) w w' ∧ EvAt w' bv ap fl capp r.s ∧ ((r.c = 0 ∧ ∃ g, e = .returned (.tuple #[.slice (some ⟨g, 0, none⟩) r.l.length r.l.length, .int .i64 0]) ∧ Own w.heap.size w' g r.l.length r.l ∧ Nums r.l) ∨ (¬ r.c = 0 ∧ e = .returned (.tuple #[.slice none 0 0, .int .i64 r.c])))
theorem VRes.from {bv : Nat} {ap : Option Addr} {fl capp : Nat} {w w1 : World} {r : Rv Int} {e : Ending} {w' : World} (h : VRes bv ap fl capp w1 r e w') (k : Kp (fun b => b = bv) w w1) : VRes bv ap fl capp w r e w' := ⟨k.trans h.1, h.2⟩

/-- what an evaluation with so much fuel does at a node -/
def PV (fs : List Fn) (ap : Option Addr) (capp bv B f : Nat) : Prop :=
  ∀ (fi : Nat) (k n p c : Int) (ks : Fo) (a : Option Addr) (cap : Nat) (av : Option Addr) (cav : Nat) (vars : List Int) (s : Nat) (w : World),
    3000 < f + s → s ≤ 3000 → fi ≤ fs.length → nodeB fs (vars.length : Int) (fi : Int) k n p c ks.len = true → treeB fs (fi : Int) ks (vars.length : Int) k 0 = true → EvAt w bv ap fs.length capp s → Pat w 0 B fs ap → Fat w 0 B ks a → ks.len ≤ maxLen → Ls w bv av vars → Nums vars → vars.length ≤ 412 + s → vars.length ≤ cav → cav ≤ 9223372036854775807 →
    Calls Tryz.prog 150 #[.pointer (some ⟨bv, 0, none⟩), .agg #[.int .i64 k, .int .i64 n, .int .i64 p, .int .i64 c, .slice a ks.len cap], .slice av vars.length cav] w (VRes bv ap fs.length capp w (evE nA fs f k n p c ks vars s))
def PL (fs : List Fn) (ap : Option Addr) (capp bv B f : Nat) : Prop :=
  ∀ (fi : Nat) (q : Int) (o : Fo) (ao : Option Addr) (cao : Nat) (av : Option Addr) (cav : Nat) (vars : List Int) (s : Nat) (w : World),
    3000 < f + s → s ≤ 3000 → fi ≤ fs.length → q ≠ 9 → treeB fs (fi : Int) o (vars.length : Int) q 0 = true → EvAt w bv ap fs.length capp s → Pat w 0 B fs ap → Fat w 0 B o ao → o.len ≤ 1048576 → Ls w bv av vars → Nums vars → vars.length ≤ 412 + s → vars.length ≤ cav → cav ≤ 9223372036854775807 →
    Calls Tryz.prog 111 #[.pointer (some ⟨bv, 0, none⟩), .slice ao o.len cao, .slice av vars.length cav] w (LRes bv ap fs.length capp w (lisE nA (evE nA fs f) o vars s o.len))

theorem nums_snoc {l : List Int} {x : Int} (h : Nums l) (hx : 0 ≤ x ∧ x < 1000003) : Nums (l ++ [x]) := by
  intro n hn
  rcases List.mem_append.1 hn with hn | hn
  · exact h n hn
  · simp at hn; subst hn; exact hx

set_option maxRecDepth 100000 in
set_option maxHeartbeats 6400000 in
theorem iValues {fs : List Fn} {ap : Option Addr} {capp bv B f : Nat} (hBv : B ≤ bv) (hV : PV fs ap capp bv B f) : PL fs ap capp bv B f := by
  intro fi q o ao cao av cav vars s w hf hs hfi hq ht hE hP hF hol hL hN hvl hcv hcv2
  obtain ⟨i0, hi, hz0, hz1, hz2⟩ := info_parts info64
  have hbw := cell_lt hE.c0
  have HE := Lib.hid hE
  have HP := Lib.hid hP
  have HF := Lib.hid hF
  have HL := Lib.hid hL
  clear hE hP hF hL
  go_enter Tryz.func111, Tryz.ntmps111
  go_wp2_with (refine wpList_make_full _ rfl _ _ 25 rfl w.heap.size 2 i0 (.int .i64 0) 1 Tryz.underlying25 hi hz0 hz1 .i64 .i64 _ _ o.len rfl rfl rfl rfl ?c2 ?c3 (Nat.le_refl _) ?_)
  case c2 => rw [hz2]; omega
  case c3 => unfold maxLen; omega
  intro w1 ho1 hg1
  have hb1 := (Below.refl w.heap.size w).grown hg1 (Nat.le_refl _) (by intro k hk; cases hk)
  have HO0 : Hid (Own w.heap.size w1 w.heap.size o.len (fillz o.len ([] : List Int))) := made_own ho1
  have HK0 : Hid (Kp (fun b => b = bv) w w1) := Kp.of_below hb1
  have HE0 : Hid (EvAt w1 bv ap fs.length capp s) := HE.out.next hb1
  clear ho1 hg1 hi hz0 hz1 hz2 hb1 HE
  go_wp2_with fail
  go_loopw [18] (fun x wr => ∃ i : Nat, i ≤ o.len ∧ x = .int .i64 i ∧ Hid ((lisE nA (evE nA fs f) o vars s i).c = 0) ∧ Hid (Own w.heap.size wr w.heap.size o.len (fillz o.len (lisE nA (evE nA fs f) o vars s i).l)) ∧ Hid (Nums (lisE nA (evE nA fs f) o vars s i).l) ∧ Hid (Kp (fun b => b = bv) w wr) ∧ Hid (EvAt wr bv ap fs.length capp (lisE nA (evE nA fs f) o vars s i).s)) (fun x _ => o.len - (intOf x).toNat)
  case atStart => exact ⟨0, Nat.zero_le _, rfl, rfl, HO0.out, (fun n hn => by cases hn), HK0.out, HE0.out⟩
  case round =>
    obtain ⟨i, hi, rfl, HC, HO, HN, HK, HE⟩ := hrel
    clear HO0 HK0 HE0
    by_cases hlt : i < o.len
    · have hii : (i : Int) < (o.len : Int) := by omega
      have hFw := HF.out.keepE HK.out hBv hbw
      obtain ⟨b, off, rfl, hbB⟩ := hFw.blk (by omega)
      obtain ⟨k, n, p, c, kk, a', cap', hd, hR, hkl, x0, x1, x2, x3, x4, hFk⟩ := Fat.node hFw hlt
      obtain ⟨v1, v2⟩ := treeB_at o 0 i ht hd
      have hm : more q (0 + i) = 0 := by unfold more; rw [if_neg (fun h => hq h.1)]
      rw [hm, Int.add_zero] at v1 v2
      have hst := lisE_stp (A := nA) (evE_stp (A := nA) fs f s hf) o vars s (Nat.le_refl _) hs i
      have hll := lisE_len _ HC.out
      obtain ⟨w3, hw3⟩ : ∃ w3, w3 = wr.alloc (.cells #[.int .i64 k, .int .i64 n, .int .i64 p, .int .i64 c, .slice a' kk.len cap'] 212) := ⟨_, rfl⟩
      have b3 : Below wr.heap.size wr w3 := by rw [hw3]; exact (Below.refl _ _).alloc (Nat.le_refl _) _
      have k3 := HK.out.more b3
      have hzr := HK.out.size
      have hz3 := b3.size
      obtain ⟨rr, hrr⟩ : ∃ rr, rr = evE nA fs f k n p c kk vars (lisE nA (evE nA fs f) o vars s i).s := ⟨_, rfl⟩
      have HCV := Lib.hid (hV fi k n p c kk a' cap' av cav vars (lisE nA (evE nA fs f) o vars s i).s w3 (by omega) hst.2 hfi v1 v2 (HE.out.next b3) (HP.out.keepE k3 hBv hbw) (hFk.agree (fun j _ h2 => b3.block j (by omega))) hkl (HL.out.keep k3) hN (by omega) hcv hcv2)
      rw [← hrr] at HCV
      have HA : Hid (atE nA (evE nA fs f) o i vars (lisE nA (evE nA fs f) o vars s i).s = rr) := by show _ = _; rw [atE_eq hd, hrr]
      have hof := HO.out.kept b3 HO.out.base.2
      clear hrr hFw hFk v1 v2 hR hkl
      go_wp2_with fail
      rw [← hw3]
      clear hw3 x0 x1 x2 x3 x4
      refine HCV.out.mono ?_; rintro e w4 ⟨k4, e4, v, rfl, hv⟩
      have hof4 := hof.keepE k4 (by omega)
      have k5 := k3.trans k4
      by_cases hc : rr.c = 0
      · obtain ⟨rfl, hv0, hv1⟩ := hv hc
        have hbf : (rr.c != 0) = false := by rw [hc]; rfl
        have hlen : (fillz o.len (lisE nA (evE nA fs f) o vars s i).l).length = o.len := fillz_len (by omega)
        have hcs := hof4.cellAt i (by rw [hlen]; exact hlt)
        have hfr := hof4.frz i
        have hset := hof4.set i rr.v
        have hs2 : (fillz o.len (lisE nA (evE nA fs f) o vars s i).l).set i rr.v = fillz o.len ((lisE nA (evE nA fs f) o vars s i).l ++ [rr.v]) := by
          have := fillz_set (n := o.len) (xs := (lisE nA (evE nA fs f) o vars s i).l) (by omega) rr.v
          rw [hll] at this; exact this
        have HST : Hid (lisE nA (evE nA fs f) o vars s (i + 1) = ⟨(lisE nA (evE nA fs f) o vars s i).l ++ [rr.v], rr.s, rr.c⟩) := by show _ = _; rw [lisE_step HC.out, HA.out]
        have HO2 : Hid (Own w.heap.size (w4.setCell ⟨w.heap.size, i, none⟩ (.int .i64 rr.v)) w.heap.size o.len (fillz o.len (lisE nA (evE nA fs f) o vars s (i + 1)).l)) := by
          rw [hs2] at hset; show Own _ _ _ _ _; rw [HST.out]; exact hset
        have HK2 : Hid (Kp (fun b => b = bv) w (w4.setCell ⟨w.heap.size, i, none⟩ (.int .i64 rr.v))) := k5.newBlock (Nat.le_refl _) _
        have HE2 : Hid (EvAt (w4.setCell ⟨w.heap.size, i, none⟩ (.int .i64 rr.v)) bv ap fs.length capp (lisE nA (evE nA fs f) o vars s (i + 1)).s) := by
          show EvAt _ _ _ _ _ _; rw [HST.out]; exact e4.other (by show w.heap.size ≠ bv; omega) _
        have HN2 : Hid (Nums (lisE nA (evE nA fs f) o vars s (i + 1)).l) := by show Nums _; rw [HST.out]; exact nums_snoc HN.out ⟨hv0, hv1⟩
        have HC2 : Hid ((lisE nA (evE nA fs f) o vars s (i + 1)).c = 0) := by show _ = _; rw [HST.out]; exact hc
        clear hof hof4 hset hs2 hlen HO HK HE HN HST HCV
        generalize (fillz o.len (lisE nA (evE nA fs f) o vars s i).l).getD i 0 = y at hcs
        go_wp2_with fail
        go_roundw
        case rel => exact ⟨i + 1, by omega, by go_num, HC2.out, HO2.out, HN2.out, HK2.out, HE2.out⟩
        case measure => simp [intOf]; omega
      · have hbf : (rr.c != 0) = true := by simp [hc]
        have HBD := Lib.hid (lisE_bad (A := nA) (m := o.len) hlt HC.out (by rw [HA.out]; exact hc))
        rw [HA.out] at HBD
        clear hof hof4 HO HK HE HN HCV hv
        go_wp2_with fail
        go_ret2
        exact ⟨k5, by rw [HBD.out.2]; exact e4, .inr ⟨by rw [HBD.out.1]; exact hc, by rw [HBD.out.1]; rfl⟩⟩
    · have hii : ¬ (i : Int) < (o.len : Int) := by omega
      obtain rfl : i = o.len := by omega
      have hll := lisE_len _ HC.out
      have HO2 : Hid (Own w.heap.size wr w.heap.size o.len (lisE nA (evE nA fs f) o vars s o.len).l) := by have := HO.out; rw [fillz_full hll] at this; exact this
      have HX : Hid (LRes bv ap fs.length capp w (lisE nA (evE nA fs f) o vars s o.len) (.returned (.tuple #[.slice (some ⟨w.heap.size, 0, none⟩) o.len o.len, .int .i64 0])) wr) :=
        ⟨HK.out, HE.out, .inl ⟨HC.out, w.heap.size, by rw [hll], by rw [hll]; exact HO2.out, HN.out⟩⟩
      clear HO HK HE HN HO2 HC
      go_wp2_with fail
      go_ret2
      exact HX.out

end Go.Proofs.YtemmbacdilepgaaGreat
