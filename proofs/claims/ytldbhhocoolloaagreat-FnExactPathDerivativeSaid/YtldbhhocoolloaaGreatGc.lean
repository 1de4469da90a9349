/- The program's evaluation with numbers: what it keeps and answers; lists of expressions. The model's evaluation: what it keeps; lists of values; how it fails. The model's evaluation: lists of values of its own; outputs one after the other. The model's evaluation: an environment with one value more; calls and loops. The model's evaluation: calls and loops. The model's evaluation: each node, and all of them. The model's evaluation: what is asked. The model's evaluation with series along a line: the series of a line, copies, columns. The model's evaluation with series: a function, series as arguments, copies of the outputs. The code for a place and a direction, by the model. -/
import Derived.Deep.RegionWith
import Derived.Deep.AppendLies
import Derived.Deep.RegionHeld3
import Derived.IntWalk
import Derived.Test.YtldbhhocoolloaaGreatEa
import Derived.Test.YtldbhhocoolloaaGreatEo
import Derived.Test.YtldbhhocoolloaaGreatNfn
import Derived.Test.YtldbhhocoolloaaGreatCkr
import Derived.Test.YtldbhhocoolloaaGreatFitW
import Derived.Test.YtldbhhocoolloaaGreatEk
import Derived.Test.YtldbhhocoolloaaGreatPl
namespace Go.Proofs.YtldbhhocoolloaaGreat
open Go.RowKit
set_option linter.unusedVariables false

theorem Kp.alloc {S : Nat → Prop} {w w' : World} (h : Kp S w w') (o : Obj) : Kp S w (w'.alloc o) := by
  have hb := (Below.refl w'.heap.size w').alloc (Nat.le_refl _) o
  exact h.trans (Kp.of_below hb)
theorem Kp.newBlock {S : Nat → Prop} {w w' : World} (h : Kp S w w') {p : Addr} (hp : w.heap.size ≤ p.block) (v : Value) : Kp S w (w'.setCell p v) :=
  ⟨h.os, h.tape, h.output, by simpa using h.size, fun i hi hn => (Below.heap_setCell _ _ _ _ (by omega)).trans (h.block i hi hn)⟩
theorem Kp.more {S : Nat → Prop} {w w' w2 : World} (h : Kp S w w') (hb : Below w'.heap.size w' w2) : Kp S w w2 := h.trans (Kp.of_below hb)
/-- where the evaluation keeps its fields -/
structure EvAt (w : World) (bv : Nat) (ap : Option Addr) (fl capp s : Nat) : Prop where
  c0 : w.cell? ⟨bv, 0, none⟩ = some ofN
  c1 : w.cell? ⟨bv, 1, none⟩ = some (.slice ap fl capp)
  c2 : w.cell? ⟨bv, 2, none⟩ = some (.int .i64 s)
  fz : ∀ o, w.frozen? ⟨bv, o, none⟩ = false
theorem EvAt.next {w w' : World} {bv : Nat} {ap : Option Addr} {fl capp s : Nat} (h : EvAt w bv ap fl capp s) (hb : Below w.heap.size w w') : EvAt w' bv ap fl capp s := by
  have hl := cell_lt h.c0
  exact ⟨(hb.cell (p := ⟨bv, 0, none⟩) hl).trans h.c0, (hb.cell (p := ⟨bv, 1, none⟩) hl).trans h.c1, (hb.cell (p := ⟨bv, 2, none⟩) hl).trans h.c2, fun o => (hb.frozen (p := ⟨bv, o, none⟩) hl).trans (h.fz o)⟩
theorem EvAt.other {w : World} {bv : Nat} {ap : Option Addr} {fl capp s : Nat} (h : EvAt w bv ap fl capp s) {p : Addr} (hp : p.block ≠ bv) (v : Value) : EvAt (w.setCell p v) bv ap fl capp s := by
  have e : ∀ o, (w.setCell p v).cell? ⟨bv, o, none⟩ = w.cell? ⟨bv, o, none⟩ := fun o => World.cell?_setCell_other _ _ _ _ (by intro e; apply hp; rw [e])
  exact ⟨(e 0).trans h.c0, (e 1).trans h.c1, (e 2).trans h.c2, fun o => (World.frozen?_setCell _ _ _ _).trans (h.fz o)⟩
/-- a list that lies elsewhere -/
structure Ls (w : World) (bv : Nat) (a : Option Addr) (l : List Int) : Prop where
  at_ : At w a l
  ne : ∀ g, blk a l = some g → g ≠ bv
theorem Ls.keep {w w' : World} {bv : Nat} {a : Option Addr} {l : List Int} (h : Ls w bv a l) (k : Kp (fun b => b = bv) w w') : Ls w' bv a l := by
  refine ⟨?_, h.ne⟩
  by_cases hl : l = []
  · exact .inl hl
  · obtain ⟨b, off, rfl, hb, hc⟩ := h.at_.resolve_left hl
    have hne : ¬ b = bv := h.ne b (by simp [blk, hl])
    exact .inr ⟨b, off, rfl, Nat.lt_of_lt_of_le hb k.size, fun i hi => k.cell (hc i hi) hne⟩
theorem blk_eqE {r : Nat} {l : List Int} {g : Nat} (h : blk (some ⟨r, 0, none⟩) l = some g) : g = r := by
  unfold blk at h
  split at h
  · cases h
  · simpa using h.symm
theorem Own.ls {L : Nat} {w : World} {g cap bv : Nat} {l : List Int} (h : Own L w g cap l) (hb : bv < L) : Ls w bv (some ⟨g, 0, none⟩) l :=
  ⟨h.at, fun g' hg => by have := h.base; have e := blk_eqE hg; omega⟩
theorem Own.keepE {L : Nat} {w w' : World} {g cap bv : Nat} {l : List Int} (h : Own L w g cap l) (k : Kp (fun b => b = bv) w w') (hb : g ≠ bv) : Own L w' g cap l :=
  OwR.keep h.owr k (fun p hp => by cases hp; exact hb)
theorem Pat.keepE {w w' : World} {B bv : Nat} {fs : List Fn} {ap : Option Addr} (h : Pat w 0 B fs ap) (k : Kp (fun b => b = bv) w w') (hB : B ≤ bv) (hw : bv < w.heap.size) : Pat w' 0 B fs ap := h.agree (fun i _ h2 => k.block i (by omega) (by omega))
theorem Fat.keepE {w w' : World} {B bv : Nat} {f : Fo} {a : Option Addr} (h : Fat w 0 B f a) (k : Kp (fun b => b = bv) w w') (hB : B ≤ bv) (hw : bv < w.heap.size) : Fat w' 0 B f a := h.agree (fun i _ h2 => k.block i (by omega) (by omega))

/-- a value is answered -/
def VRes (bv : Nat) (ap : Option Addr) (fl capp : Nat) (w : World) (r : Rv Int) (e : Ending) (w' : World) : Prop :=
  Kp (fun b => b = bv) w w' ∧ EvAt w' bv ap fl capp r.s ∧ ∃ v, e = .returned (.tuple #[.int .i64 v, .int .i64 r.c]) ∧ (r.c = 0 → v = r.v ∧ 0 ≤ v ∧ v < 1000003)
/-- a list of values is answered -/
def LRes (bv : Nat) (ap : Option Addr) (fl capp : Nat) (w : World) (r : Rl Int) (e : Ending) (w' : World) : Prop :=
  Kp (fun b => b = bv) w w' ∧ EvAt w' bv ap fl capp r.s ∧ ((r.c = 0 ∧ ∃ g, e = .returned (.tuple #[.slice (some ⟨g, 0, none⟩) r.l.length r.l.length, .int .i64 0]) ∧ Own w.heap.size w' g r.l.length r.l ∧ Nums r.l) ∨ (¬ r.c = 0 ∧ e = .returned (.tuple #[.slice none 0 0, .int .i64 r.c])))
theorem VRes.from {bv : Nat} {ap : Option Addr} {fl capp : Nat} {w w1 : World} {r : Rv Int} {e : Ending} {w' : World} (h : VRes bv ap fl capp w1 r e w') (k : Kp (fun b => b = bv) w w1) : VRes bv ap fl capp w r e w' := ⟨k.trans h.1, h.2⟩

/-- what an evaluation with so much fuel does at a node -/
def PV (fs : List Fn) (ap : Option Addr) (capp bv B f : Nat) : Prop :=
  ∀ (fi : Nat) (k n p c : Int) (ks : Fo) (a : Option Addr) (cap : Nat) (av : Option Addr) (cav : Nat) (vars : List Int) (s : Nat) (w : World),
    3000 < f + s → s ≤ 3000 → fi ≤ fs.length → nodeB fs (vars.length : Int) (fi : Int) k n p c ks.len = true → treeB fs (fi : Int) ks (vars.length : Int) k 0 = true → EvAt w bv ap fs.length capp s → Pat w 0 B fs ap → Fat w 0 B ks a → ks.len ≤ maxLen → Ls w bv av vars → Nums vars → vars.length ≤ 412 + s → vars.length ≤ cav → cav ≤ 9223372036854775807 →
    Calls Tryz.prog 113 #[.pointer (some ⟨bv, 0, none⟩), .agg #[.int .i64 k, .int .i64 n, .int .i64 p, .int .i64 c, .slice a ks.len cap], .slice av vars.length cav] w (VRes bv ap fs.length capp w (evE nA fs f k n p c ks vars s))
def PL (fs : List Fn) (ap : Option Addr) (capp bv B f : Nat) : Prop :=
  ∀ (fi : Nat) (q : Int) (o : Fo) (ao : Option Addr) (cao : Nat) (av : Option Addr) (cav : Nat) (vars : List Int) (s : Nat) (w : World),
    3000 < f + s → s ≤ 3000 → fi ≤ fs.length → q ≠ 9 → treeB fs (fi : Int) o (vars.length : Int) q 0 = true → EvAt w bv ap fs.length capp s → Pat w 0 B fs ap → Fat w 0 B o ao → o.len ≤ 1048576 → Ls w bv av vars → Nums vars → vars.length ≤ 412 + s → vars.length ≤ cav → cav ≤ 9223372036854775807 →
    Calls Tryz.prog 89 #[.pointer (some ⟨bv, 0, none⟩), .slice ao o.len cao, .slice av vars.length cav] w (LRes bv ap fs.length capp w (lisE nA (evE nA fs f) o vars s o.len))

theorem nums_snoc {l : List Int} {x : Int} (h : Nums l) (hx : 0 ≤ x ∧ x < 1000003) : Nums (l ++ [x]) := by
  intro n hn
  rcases List.mem_append.1 hn with hn | hn
  · exact h n hn
  · simp at hn; subst hn; exact hx

set_option maxRecDepth 100000 in
set_option maxHeartbeats 6400000 in
theorem iValues {fs : List Fn} {ap : Option Addr} {capp bv B f : Nat} (hBv : B ≤ bv) (hV : PV fs ap capp bv B f) : PL fs ap capp bv B f := by
  intro fi q o ao cao av cav vars s w hf hs hfi hq ht hE hP hF hol hL hN hvl hcv hcv2
  obtain ⟨i0, hi, hz0, hz1, hz2⟩ := info_parts info64
  have hbw := cell_lt hE.c0
  have HE := Lib.hid hE
  have HP := Lib.hid hP
  have HF := Lib.hid hF
  have HL := Lib.hid hL
  clear hE hP hF hL
  go_enter Tryz.func89, Tryz.ntmps89
  go_wp2_with (refine wpList_make_full _ rfl _ _ 25 rfl w.heap.size 2 i0 (.int .i64 0) 1 Tryz.underlying25 hi hz0 hz1 .i64 .i64 _ _ o.len rfl rfl rfl rfl ?c2 ?c3 (Nat.le_refl _) ?_)
  case c2 => rw [hz2]; omega
  case c3 => unfold maxLen; omega
  intro w1 ho1 hg1
  have hb1 := (Below.refl w.heap.size w).grown hg1 (Nat.le_refl _) (by intro k hk; cases hk)
  have HO0 : Hid (Own w.heap.size w1 w.heap.size o.len (fillz o.len ([] : List Int))) := made_own ho1
  have HK0 : Hid (Kp (fun b => b = bv) w w1) := Kp.of_below hb1
  have HE0 : Hid (EvAt w1 bv ap fs.length capp s) := HE.out.next hb1
  clear ho1 hg1 hi hz0 hz1 hz2 hb1 HE
  go_wp2_with fail
  go_loopw [18] (fun x wr => ∃ i : Nat, i ≤ o.len ∧ x = .int .i64 i ∧ Hid ((lisE nA (evE nA fs f) o vars s i).c = 0) ∧ Hid (Own w.heap.size wr w.heap.size o.len (fillz o.len (lisE nA (evE nA fs f) o vars s i).l)) ∧ Hid (Nums (lisE nA (evE nA fs f) o vars s i).l) ∧ Hid (Kp (fun b => b = bv) w wr) ∧ Hid (EvAt wr bv ap fs.length capp (lisE nA (evE nA fs f) o vars s i).s)) (fun x _ => o.len - (intOf x).toNat)
  case atStart => exact ⟨0, Nat.zero_le _, rfl, rfl, HO0.out, (fun n hn => by cases hn), HK0.out, HE0.out⟩
  case round =>
    obtain ⟨i, hi, rfl, HC, HO, HN, HK, HE⟩ := hrel
    clear HO0 HK0 HE0
    by_cases hlt : i < o.len
    · have hii : (i : Int) < (o.len : Int) := by omega
      have hFw := HF.out.keepE HK.out hBv hbw
      obtain ⟨b, off, rfl, hbB⟩ := hFw.blk (by omega)
      obtain ⟨k, n, p, c, kk, a', cap', hd, hR, hkl, x0, x1, x2, x3, x4, hFk⟩ := Fat.node hFw hlt
      obtain ⟨v1, v2⟩ := treeB_at o 0 i ht hd
      have hm : more q (0 + i) = 0 := by unfold more; rw [if_neg (fun h => hq h.1)]
      rw [hm, Int.add_zero] at v1 v2
      have hst := lisE_stp (A := nA) (evE_stp (A := nA) fs f s hf) o vars s (Nat.le_refl _) hs i
      have hll := lisE_len _ HC.out
      obtain ⟨w3, hw3⟩ : ∃ w3, w3 = wr.alloc (.cells #[.int .i64 k, .int .i64 n, .int .i64 p, .int .i64 c, .slice a' kk.len cap'] 160) := ⟨_, rfl⟩
      have b3 : Below wr.heap.size wr w3 := by rw [hw3]; exact (Below.refl _ _).alloc (Nat.le_refl _) _
      have k3 := HK.out.more b3
      have hzr := HK.out.size
      have hz3 := b3.size
      obtain ⟨rr, hrr⟩ : ∃ rr, rr = evE nA fs f k n p c kk vars (lisE nA (evE nA fs f) o vars s i).s := ⟨_, rfl⟩
      have HCV := Lib.hid (hV fi k n p c kk a' cap' av cav vars (lisE nA (evE nA fs f) o vars s i).s w3 (by omega) hst.2 hfi v1 v2 (HE.out.next b3) (HP.out.keepE k3 hBv hbw) (hFk.agree (fun j _ h2 => b3.block j (by omega))) hkl (HL.out.keep k3) hN (by omega) hcv hcv2)
      rw [← hrr] at HCV
      have HA : Hid (atE nA (evE nA fs f) o i vars (lisE nA (evE nA fs f) o vars s i).s = rr) := by show _ = _; rw [atE_eq hd, hrr]
      have hof := HO.out.kept b3 HO.out.base.2
      clear hrr hFw hFk v1 v2 hR hkl
      go_wp2_with fail
      rw [← hw3]
      clear hw3 x0 x1 x2 x3 x4
      refine HCV.out.mono ?_; rintro e w4 ⟨k4, e4, v, rfl, hv⟩
      have hof4 := hof.keepE k4 (by omega)
      have k5 := k3.trans k4
      by_cases hc : rr.c = 0
      · obtain ⟨rfl, hv0, hv1⟩ := hv hc
        have hbf : (rr.c != 0) = false := by rw [hc]; rfl
        have hlen : (fillz o.len (lisE nA (evE nA fs f) o vars s i).l).length = o.len := fillz_len (by omega)
        have hcs := hof4.cellAt i (by rw [hlen]; exact hlt)
        have hfr := hof4.frz i
        have hset := hof4.set i rr.v
        have hs2 : (fillz o.len (lisE nA (evE nA fs f) o vars s i).l).set i rr.v = fillz o.len ((lisE nA (evE nA fs f) o vars s i).l ++ [rr.v]) := by
          have := fillz_set (n := o.len) (xs := (lisE nA (evE nA fs f) o vars s i).l) (by omega) rr.v
          rw [hll] at this; exact this
        have HST : Hid (lisE nA (evE nA fs f) o vars s (i + 1) = ⟨(lisE nA (evE nA fs f) o vars s i).l ++ [rr.v], rr.s, rr.c⟩) := by show _ = _; rw [lisE_step HC.out, HA.out]
        have HO2 : Hid (Own w.heap.size (w4.setCell ⟨w.heap.size, i, none⟩ (.int .i64 rr.v)) w.heap.size o.len (fillz o.len (lisE nA (evE nA fs f) o vars s (i + 1)).l)) := by
          rw [hs2] at hset; show Own _ _ _ _ _; rw [HST.out]; exact hset
        have HK2 : Hid (Kp (fun b => b = bv) w (w4.setCell ⟨w.heap.size, i, none⟩ (.int .i64 rr.v))) := k5.newBlock (Nat.le_refl _) _
        have HE2 : Hid (EvAt (w4.setCell ⟨w.heap.size, i, none⟩ (.int .i64 rr.v)) bv ap fs.length capp (lisE nA (evE nA fs f) o vars s (i + 1)).s) := by
          show EvAt _ _ _ _ _ _; rw [HST.out]; exact e4.other (by show w.heap.size ≠ bv; omega) _
        have HN2 : Hid (Nums (lisE nA (evE nA fs f) o vars s (i + 1)).l) := by show Nums _; rw [HST.out]; exact nums_snoc HN.out ⟨hv0, hv1⟩
        have HC2 : Hid ((lisE nA (evE nA fs f) o vars s (i + 1)).c = 0) := by show _ = _; rw [HST.out]; exact hc
        clear hof hof4 hset hs2 hlen HO HK HE HN HST HCV
        generalize (fillz o.len (lisE nA (evE nA fs f) o vars s i).l).getD i 0 = y at hcs
        go_wp2_with fail
        go_roundw
        case rel => exact ⟨i + 1, by omega, by go_num, HC2.out, HO2.out, HN2.out, HK2.out, HE2.out⟩
        case measure => simp [intOf]; omega
      · have hbf : (rr.c != 0) = true := by simp [hc]
        have HBD := Lib.hid (lisE_bad (A := nA) (m := o.len) hlt HC.out (by rw [HA.out]; exact hc))
        rw [HA.out] at HBD
        clear hof hof4 HO HK HE HN HCV hv
        go_wp2_with fail
        go_ret2
        exact ⟨k5, by rw [HBD.out.2]; exact e4, .inr ⟨by rw [HBD.out.1]; exact hc, by rw [HBD.out.1]; rfl⟩⟩
    · have hii : ¬ (i : Int) < (o.len : Int) := by omega
      obtain rfl : i = o.len := by omega
      have hll := lisE_len _ HC.out
      have HO2 : Hid (Own w.heap.size wr w.heap.size o.len (lisE nA (evE nA fs f) o vars s o.len).l) := by have := HO.out; rw [fillz_full hll] at this; exact this
      have HX : Hid (LRes bv ap fs.length capp w (lisE nA (evE nA fs f) o vars s o.len) (.returned (.tuple #[.slice (some ⟨w.heap.size, 0, none⟩) o.len o.len, .int .i64 0])) wr) :=
        ⟨HK.out, HE.out, .inl ⟨HC.out, w.heap.size, by rw [hll], by rw [hll]; exact HO2.out, HN.out⟩⟩
      clear HO HK HE HN HO2 HC
      go_wp2_with fail
      go_ret2
      exact HX.out

end Go.Proofs.YtldbhhocoolloaaGreat

namespace Go.Proofs.YtldbhhocoolloaaGreat
open Go.RowKit
set_option linter.unusedVariables false

/-- where the model's evaluation keeps its fields -/
structure RnAt (w : World) (br bp op n s : Nat) (c : Int) : Prop where
  c0 : w.cell? ⟨br, 0, none⟩ = some (.pointer (some ⟨bp, op, none⟩))
  c1 : w.cell? ⟨br, 1, none⟩ = some (.int .i64 n)
  c2 : w.cell? ⟨br, 2, none⟩ = some (.int .i64 s)
  c3 : w.cell? ⟨br, 3, none⟩ = some (.int .i64 c)
  fz : ∀ o, w.frozen? ⟨br, o, none⟩ = false
theorem RnAt.next {w w' : World} {br bp op n s : Nat} {c : Int} (h : RnAt w br bp op n s c) (hb : Below w.heap.size w w') : RnAt w' br bp op n s c := by
  have hl := cell_lt h.c0
  exact ⟨(hb.cell (p := ⟨br, 0, none⟩) hl).trans h.c0, (hb.cell (p := ⟨br, 1, none⟩) hl).trans h.c1, (hb.cell (p := ⟨br, 2, none⟩) hl).trans h.c2, (hb.cell (p := ⟨br, 3, none⟩) hl).trans h.c3, fun o => (hb.frozen (p := ⟨br, o, none⟩) hl).trans (h.fz o)⟩
theorem RnAt.step {w : World} {br bp op n s : Nat} {c : Int} (h : RnAt w br bp op n s c) : RnAt (w.setCell ⟨br, 2, none⟩ (.int .i64 ((s : Int) + 1))) br bp op n (s + 1) c :=
  ⟨(World.cell?_setCell_other _ _ _ _ (by simp)).trans h.c0, (World.cell?_setCell_other _ _ _ _ (by simp)).trans h.c1, by rw [World.cell?_setCell_same _ _ _ h.c2, Int.natCast_add]; rfl, (World.cell?_setCell_other _ _ _ _ (by simp)).trans h.c3, fun o => (World.frozen?_setCell _ _ _ _).trans (h.fz o)⟩
theorem RnAt.code {w : World} {br bp op n s : Nat} {c c' : Int} (h : RnAt w br bp op n s c) : RnAt (w.setCell ⟨br, 3, none⟩ (.int .i64 c')) br bp op n s c' :=
  ⟨(World.cell?_setCell_other _ _ _ _ (by simp)).trans h.c0, (World.cell?_setCell_other _ _ _ _ (by simp)).trans h.c1, (World.cell?_setCell_other _ _ _ _ (by simp)).trans h.c2, World.cell?_setCell_same _ _ _ h.c3, fun o => (World.frozen?_setCell _ _ _ _).trans (h.fz o)⟩
theorem Ls.next {w w' : World} {bv : Nat} {a : Option Addr} {l : List Int} (h : Ls w bv a l) (hb : Below w.heap.size w w') : Ls w' bv a l := ⟨h.at_.below hb (Nat.le_refl _), h.ne⟩

/-- the lists of an environment: each of n numbers, in blocks below X -/
structure En (w : World) (br : Nat) (R : Nat → Prop) (n : Nat) (a : Option Addr) (vars : List (List Int)) : Prop where
  rows : vars = [] ∨ ∃ b off, a = some ⟨b, off, none⟩ ∧ b ≠ br ∧ b < w.heap.size ∧ ∀ i, i < vars.length → ∃ ai ci, w.cell? ⟨b, off + i, none⟩ = some (.slice ai n ci) ∧ Ls w br ai (vars.getD i []) ∧ ∀ g, blk ai (vars.getD i []) = some g → R g
  len : ∀ i, i < vars.length → (vars.getD i []).length = n
  nums : ∀ i, i < vars.length → Nums (vars.getD i [])
theorem En.keep {w w' : World} {br n : Nat} {R : Nat → Prop} {a : Option Addr} {vars : List (List Int)} (h : En w br R n a vars) (k : Kp (fun b => b = br) w w') : En w' br R n a vars := by
  refine ⟨?_, h.len, h.nums⟩
  rcases h.rows with h0 | ⟨b, off, h1, h2, h3, h4⟩
  · exact .inl h0
  · refine .inr ⟨b, off, h1, h2, Nat.lt_of_lt_of_le h3 k.size, fun i hi => ?_⟩
    obtain ⟨ai, ci, h5, h6, h7⟩ := h4 i hi
    exact ⟨ai, ci, k.cell h5 h2, h6.keep k, h7⟩
theorem En.next {w w' : World} {br n : Nat} {R : Nat → Prop} {a : Option Addr} {vars : List (List Int)} (h : En w br R n a vars) (hb : Below w.heap.size w w') : En w' br R n a vars := by
  refine ⟨?_, h.len, h.nums⟩
  rcases h.rows with h0 | ⟨b, off, h1, h2, h3, h4⟩
  · exact .inl h0
  · refine .inr ⟨b, off, h1, h2, Nat.lt_of_lt_of_le h3 hb.size, fun i hi => ?_⟩
    obtain ⟨ai, ci, h5, h6, h7⟩ := h4 i hi
    exact ⟨ai, ci, (hb.cell (p := ⟨b, off + i, none⟩) h3).trans h5, h6.next hb, h7⟩
theorem En.up {w : World} {br n : Nat} {R R' : Nat → Prop} {a : Option Addr} {vars : List (List Int)} (h : En w br R n a vars) (hR : ∀ g, R g → R' g) : En w br R' n a vars := by
  refine ⟨?_, h.len, h.nums⟩
  rcases h.rows with h0 | ⟨b, off, h1, h2, h3, h4⟩
  · exact .inl h0
  · refine .inr ⟨b, off, h1, h2, h3, fun i hi => ?_⟩
    obtain ⟨ai, ci, h5, h6, h7⟩ := h4 i hi
    exact ⟨ai, ci, h5, h6, fun g hg => hR g (h7 g hg)⟩

/-- what the model answers at a node -/
def SRes (br bp op : Nat) (R : Nat → Prop) (n : Nat) (w : World) (r : Rv (List Int)) (e : Ending) (w' : World) : Prop :=
  Kp (fun b => b = br) w w' ∧ RnAt w' br bp op n r.s r.c ∧ ∃ a cap v, e = .returned (.slice a n cap) ∧ v.length = n ∧ Nums v ∧ Ls w' br a v ∧ (∀ g, blk a v = some g → R g ∨ w.heap.size ≤ g) ∧ (r.c = 0 → v = r.v)
theorem SRes.mk {br bp op n : Nat} {R : Nat → Prop} {w : World} {r : Rv (List Int)} {w' : World} {a : Option Addr} {cap : Nat} {v : List Int} (k : Kp (fun b => b = br) w w') (h : RnAt w' br bp op n r.s r.c) (hl : v.length = n) (hn : Nums v) (hs : Ls w' br a v) (hx : ∀ g, blk a v = some g → R g ∨ w.heap.size ≤ g) (hv : r.c = 0 → v = r.v) : SRes br bp op R n w r (.returned (.slice a n cap)) w' := ⟨k, h, a, cap, v, rfl, hl, hn, hs, hx, hv⟩
/-- a node from a state that may have failed -/
def evX (fs : List Fn) (n f : Nat) (c : Int) (k nn p cc : Int) (ks : Fo) (vars : List (List Int)) (s : Nat) : Rv (List Int) := if c = 0 then evE (sA n) fs f k nn p cc ks vars s else ⟨[], s, c⟩

theorem cstl_numsE {x : Int} {n : Nat} (h : 0 ≤ x ∧ x < 1000003) : Nums (cstl x n) := by
  intro y hy
  unfold cstl at hy
  rcases List.mem_or_eq_of_mem_set hy with hy | rfl
  · have := List.eq_of_mem_replicate hy; omega
  · exact h

set_option maxRecDepth 100000 in
set_option maxHeartbeats 3200000 in
theorem sFail (br bp op : Nat) (R : Nat → Prop) (n s : Nat) (c c' : Int) (w : World) (h : RnAt w br bp op n s c) (hn : n ≤ 13) (hc' : c' ≠ 0) :
    Calls Tryz.prog 127 #[.pointer (some ⟨br, 0, none⟩), .int .i64 c'] w (SRes br bp op R n w ⟨[], s, if c = 0 then c' else c⟩) := by
  have hbw := cell_lt h.c0
  by_cases hc : c = 0
  · have hcb : (c == 0) = true := by simp [hc]
    obtain ⟨w1, hw1⟩ : ∃ w1, w1 = w.setCell ⟨br, 3, none⟩ (.int .i64 c') := ⟨_, rfl⟩
    have h1 : RnAt w1 br bp op n s c' := by rw [hw1]; exact h.code
    have k1 : Kp (fun b => b = br) w w1 := by rw [hw1]; exact Kp.set (p := ⟨br, 3, none⟩) rfl
    have x3 := h.c3
    have xf := h.fz 3
    have y1 : w1.cell? ⟨br, 1, none⟩ = some (.int .i64 n) := h1.c1
    have z1 : w1.heap.size = w.heap.size := by rw [hw1]; simp
    have x1 := h.c1
    have HC := Lib.hid (sConst 0 n w1 (by omega))
    rw [if_pos hc]
    clear h hc
    go_enter Tryz.func127, Tryz.ntmps127
    go_wp2_with fail
    rw [← hw1]
    clear hw1
    refine HC.out.mono ?_; rintro e w2 ⟨g, cap, rfl, ho, hb⟩
    rw [cstl_len]
    have hgb := ho.base
    go_wp2_with fail
    go_ret
    exact .mk (k1.more hb) (h1.next hb) (cstl_len _ _) (cstl_numsE (by omega)) (ho.ls (by omega)) (fun g' hg => .inr (by have := blk_eqE hg; omega)) (fun h => absurd h hc')
  · have hcb : (c == 0) = false := by simp [hc]
    have x3 := h.c3
    have x1 := h.c1
    have HC := Lib.hid (sConst 0 n w (by omega))
    rw [if_neg hc]
    go_enter Tryz.func127, Tryz.ntmps127
    go_wp2_with fail
    refine HC.out.mono ?_; rintro e w2 ⟨g, cap, rfl, ho, hb⟩
    rw [cstl_len]
    have hgb := ho.base
    go_wp2_with fail
    go_ret
    exact .mk (Kp.of_below hb) (h.next hb) (cstl_len _ _) (cstl_numsE (by omega)) (ho.ls (by omega)) (fun g' hg => .inr (by have := blk_eqE hg; omega)) (fun h => absurd h hc)

end Go.Proofs.YtldbhhocoolloaaGreat

namespace Go.Proofs.YtldbhhocoolloaaGreat
open Go.RowKit
set_option linter.unusedVariables false

theorem infoRowE : (Tryz.prog.info? 25).map (fun i => (i.zero, i.size, i.bytes)) = some (some (.slice none 0 0), 1, 24) := by kernel_rfl
theorem Ls.grown {w w' : World} {br g : Nat} {a : Option Addr} {l : List Int} (h : Ls w br a l) (hg : w.grownBy w' (some g)) (hne : ∀ gb, blk a l = some gb → gb ≠ g) : Ls w' br a l := by
  refine ⟨?_, h.ne⟩
  by_cases hl : l = []
  · exact .inl hl
  · obtain ⟨b, off, rfl, hb, hc⟩ := h.at_.resolve_left hl
    have hn : b ≠ g := hne b (by simp [blk, hl])
    exact .inr ⟨b, off, rfl, Nat.lt_of_lt_of_le hb hg.size, fun i hi => (World.cell?_of_block (a := ⟨b, off + i, none⟩) (hg.block b hb (by simpa using fun e => hn e))).trans (hc i hi)⟩
theorem kp_grown {w w1 w2 : World} {S : Nat → Prop} {g : Nat} (h : Kp S w w1) (hg : w1.grownBy w2 (some g)) (hb : w.heap.size ≤ g) : Kp S w w2 :=
  ⟨hg.os.trans h.os, hg.tape.trans h.tape, hg.output.trans h.output, Nat.le_trans h.size hg.size, fun q hq hn => (hg.block q (Nat.lt_of_lt_of_le hq h.size) (by simp; omega)).trans (h.block q hq hn)⟩
theorem RnAt.grown {w w' : World} {br bp op n s g : Nat} {c : Int} (h : RnAt w br bp op n s c) (hg : w.grownBy w' (some g)) (hb : br ≠ g) : RnAt w' br bp op n s c := by
  have hl := cell_lt h.c0
  have e (o : Nat) : w'.cell? ⟨br, o, none⟩ = w.cell? ⟨br, o, none⟩ := World.cell?_of_block (a := ⟨br, o, none⟩) (hg.block br hl (by simpa using hb))
  exact ⟨(e 0).trans h.c0, (e 1).trans h.c1, (e 2).trans h.c2, (e 3).trans h.c3, fun o => (World.frozen?_of_block (a := ⟨br, o, none⟩) (hg.block br hl (by simpa using hb))).trans (h.fz o)⟩
theorem Ls.lt {w : World} {br : Nat} {a : Option Addr} {l : List Int} (h : Ls w br a l) : ∀ g, blk a l = some g → g < w.heap.size := by
  intro g hg
  by_cases hl : l = []
  · simp [blk, hl] at hg
  · obtain ⟨b, off, rfl, hb, hc⟩ := h.at_.resolve_left hl
    simp [blk, hl] at hg
    omega

/-- a list of lists in a block of the call's own; the lists lie anywhere else -/
structure Eo (W : World) (L br : Nat) (R : Nat → Prop) (n g kg k : Nat) (vars : List (List Int)) : Prop where
  top : ∃ vs, W.ownsRow L 25 1 (.slice (some ⟨g, 0, none⟩) k kg) k vs ∧ ∀ i, i < k → ∃ ai ci, vs[i]? = some (.slice ai n ci) ∧ Ls W br ai (vars.getD i []) ∧ ∀ gb, blk ai (vars.getD i []) = some gb → gb ≠ g ∧ (R gb ∨ L ≤ gb)
  vl : vars.length = k
  len : ∀ i, i < k → (vars.getD i []).length = n
  nums : ∀ i, i < k → Nums (vars.getD i [])
theorem Eo.base {W : World} {L br n g kg k : Nat} {R : Nat → Prop} {vars : List (List Int)} (h : Eo W L br R n g kg k vars) : L ≤ g ∧ g < W.heap.size := by obtain ⟨vs, h1, _⟩ := h.top; exact h1.lt g rfl
theorem Eo.en {W : World} {L br n g kg k : Nat} {R : Nat → Prop} {vars : List (List Int)} (h : Eo W L br R n g kg k vars) (hb : br < L) : En W br (fun g => R g ∨ L ≤ g ∧ g < W.heap.size) n (some ⟨g, 0, none⟩) vars := by
  have hgb := h.base
  refine ⟨.inr ⟨g, 0, rfl, by omega, hgb.2, fun i hi => ?_⟩, fun i hi => h.len i (by rw [← h.vl]; exact hi), fun i hi => h.nums i (by rw [← h.vl]; exact hi)⟩
  have hi' : i < k := by rw [← h.vl]; exact hi
  obtain ⟨vs, h1, h2⟩ := h.top
  obtain ⟨ai, ci, h3, h4, h5⟩ := h2 i hi'
  exact ⟨ai, ci, by rw [Nat.zero_add, h1.cellAt i (by omega)]; exact h3, h4, fun gb hg => (h5 gb hg).2.imp id fun e => ⟨e, h4.lt gb hg⟩⟩
theorem Eo.keep {W W' : World} {L br n g kg k : Nat} {R : Nat → Prop} {vars : List (List Int)} (h : Eo W L br R n g kg k vars) (q : Kp (fun b => b = br) W W') (hb : br < L) : Eo W' L br R n g kg k vars := by
  have hgb := h.base
  obtain ⟨vs, ⟨h0, h1⟩, h2⟩ := h.top
  refine ⟨⟨vs, ⟨h0, ?_⟩, fun i hi => ?_⟩, h.vl, h.len, h.nums⟩
  · rcases h1 with h1 | ⟨g', c', cur, e, hB, hh, r⟩
    · exact .inl h1
    · refine .inr ⟨g', c', cur, e, hB, ?_, r⟩
      rw [q.block g' (Array.getElem?_eq_some_iff.1 hh).1 (by omega)]; exact hh
  · obtain ⟨ai, ci, h3, h4, h5⟩ := h2 i hi
    exact ⟨ai, ci, h3, h4.keep q, h5⟩
theorem rows_snoc_lt {l : List (List Int)} {x : List Int} {i : Nat} (h : i < l.length) : (l ++ [x]).getD i [] = l.getD i [] := by
  rw [List.getD_eq_getElem?_getD, List.getElem?_append_left h, List.getD_eq_getElem?_getD]
theorem rows_snoc_eq {l : List (List Int)} {x : List Int} : (l ++ [x]).getD l.length [] = x := by
  rw [List.getD_eq_getElem?_getD, List.getElem?_append_right (Nat.le_refl _), Nat.sub_self]; rfl
/-- a list is appended -/
theorem eo_push {W W1 W' : World} {L br n g k gg cc : Nat} {R : Nat → Prop} {vars : List (List Int)} {vs : List Value} {a : Option Addr} {cap : Nat} {v : List Int} (hvl : vars.length = k) (hlen : ∀ i, i < k → (vars.getD i []).length = n) (hnums : ∀ i, i < k → Nums (vars.getD i []))
    (hvs : vs.length = k) (hrows : ∀ i, i < k → ∃ ai ci, vs[i]? = some (.slice ai n ci) ∧ Ls W br ai (vars.getD i []) ∧ ∀ gb, blk ai (vars.getD i []) = some gb → gb ≠ g ∧ (R gb ∨ L ≤ gb))
    (h1 : Below W.heap.size W W1) (hown : W'.ownsRow L 25 1 (.slice (some ⟨gg, 0, none⟩) (k + 1) cc) (k + 1) (vs ++ [.slice a n cap])) (hgrow : W1.grownBy W' (some g)) (hgg : gg = g ∨ W.heap.size ≤ gg)
    (hv : Ls W br a v) (hvn : v.length = n) (hvm : Nums v) (hvg : ∀ gb, blk a v = some gb → gb ≠ g ∧ (R gb ∨ L ≤ gb)) : Eo W' L br R n gg cc (k + 1) (vars ++ [v]) := by
  refine ⟨⟨_, hown, fun i hi => ?_⟩, by simp [hvl], fun i hi => ?_, fun i hi => ?_⟩
  · by_cases e : i < k
    · obtain ⟨ai, ci, h3, h4, h5⟩ := hrows i e
      have e2 : (vars ++ [v]).getD i [] = vars.getD i [] := rows_snoc_lt (by omega)
      rw [e2]
      refine ⟨ai, ci, by rw [List.getElem?_append_left (by omega)]; exact h3, (h4.next h1).grown hgrow (fun gb hg => (h5 gb hg).1), fun gb hg => ⟨?_, (h5 gb hg).2⟩⟩
      have := h4.lt gb hg
      have := (h5 gb hg).1
      rcases hgg with e | e <;> omega
    · obtain rfl : i = k := by omega
      have e2 : (vars ++ [v]).getD i [] = v := by rw [← hvl]; exact rows_snoc_eq
      rw [e2]
      refine ⟨a, cap, by rw [List.getElem?_append_right (by omega), hvs, Nat.sub_self]; rfl, (hv.next h1).grown hgrow (fun gb hg => (hvg gb hg).1), fun gb hg => ⟨?_, (hvg gb hg).2⟩⟩
      have := hv.lt gb hg
      have := (hvg gb hg).1
      rcases hgg with e | e <;> omega
  · by_cases e : i < k
    · rw [rows_snoc_lt (by omega)]; exact hlen i e
    · obtain rfl : i = k := by omega
      rw [← hvl, rows_snoc_eq]; exact hvn
  · by_cases e : i < k
    · rw [rows_snoc_lt (by omega)]; exact hnums i e
    · obtain rfl : i = k := by omega
      rw [← hvl, rows_snoc_eq]; exact hvm

/-- the first i outputs from a state that may have failed -/
def lisX (fs : List Fn) (n f : Nat) (c : Int) (o : Fo) (vars : List (List Int)) (s i : Nat) : Rl (List Int) := if c = 0 then lisE (sA n) (evE (sA n) fs f) o vars s i else ⟨[], s, c⟩
theorem lisX_step {fs : List Fn} {n f : Nat} {c : Int} {o : Fo} {vars : List (List Int)} {s i : Nat} {k nn p cc : Int} {ks r : Fo} (hd : Fo.drop i o = .cons k nn p cc ks r) :
    (lisX fs n f c o vars s (i + 1)).s = (evX fs n f (lisX fs n f c o vars s i).c k nn p cc ks vars (lisX fs n f c o vars s i).s).s ∧ (lisX fs n f c o vars s (i + 1)).c = (evX fs n f (lisX fs n f c o vars s i).c k nn p cc ks vars (lisX fs n f c o vars s i).s).c ∧
    ((lisX fs n f c o vars s (i + 1)).c = 0 → (lisX fs n f c o vars s i).c = 0 ∧ (lisX fs n f c o vars s (i + 1)).l = (lisX fs n f c o vars s i).l ++ [(evX fs n f (lisX fs n f c o vars s i).c k nn p cc ks vars (lisX fs n f c o vars s i).s).v]) := by
  unfold lisX evX
  by_cases hc : c = 0
  · simp only [hc, if_true]
    by_cases h0 : (lisE (sA n) (evE (sA n) fs f) o vars s i).c = 0
    · rw [lisE_step h0, h0, if_pos rfl, atE_eq hd]
      exact ⟨rfl, rfl, fun _ => ⟨rfl, rfl⟩⟩
    · rw [lisE, if_neg h0, if_neg h0]
      exact ⟨rfl, rfl, fun h => absurd h h0⟩
  · simp [hc]
theorem lisX_stp {fs : List Fn} {n f : Nat} {c : Int} {o : Fo} {vars : List (List Int)} {s : Nat} (hf : 3000 < f + s) (hs : s ≤ 3000) (i : Nat) : s ≤ (lisX fs n f c o vars s i).s ∧ (lisX fs n f c o vars s i).s ≤ 3000 := by
  unfold lisX
  split
  · exact lisE_stp (evE_stp fs f s hf) o vars s (Nat.le_refl _) hs i
  · exact ⟨Nat.le_refl _, hs⟩

/-- what the model does at a node -/
def PS (fs : List Fn) (ap : Option Addr) (capp br bp op n B f : Nat) : Prop :=
  ∀ (R : Nat → Prop) (fi : Nat) (k nn p cc : Int) (ks : Fo) (a : Option Addr) (cap b off : Nat) (ae : Option Addr) (ce : Nat) (vars : List (List Int)) (s : Nat) (c : Int) (w : World),
    3000 < f + s → s ≤ 3000 → fi ≤ fs.length → nodeB fs (vars.length : Int) (fi : Int) k nn p cc ks.len = true → treeB fs (fi : Int) ks (vars.length : Int) k 0 = true → RnAt w br bp op n s c → w.cell? ⟨bp, op, none⟩ = some (.slice ap fs.length capp) → Pat w 0 B fs ap → NodeAt w b off k nn p cc ks.len a cap → b < B → Fat w 0 B ks a → ks.len ≤ maxLen → En w br R n ae vars → (∀ g, R g → g < w.heap.size) → vars.length ≤ 412 + s →
    Calls Tryz.prog 111 #[.pointer (some ⟨br, 0, none⟩), .pointer (some ⟨b, off, none⟩), .slice ae vars.length ce] w (SRes br bp op R n w (evX fs n f c k nn p cc ks vars s))
/-- a list of lists is answered -/
def SLRes (br bp op : Nat) (R : Nat → Prop) (n m : Nat) (w : World) (r : Rl (List Int)) (e : Ending) (w' : World) : Prop :=
  Kp (fun b => b = br) w w' ∧ RnAt w' br bp op n r.s r.c ∧ ∃ g kg vs, e = .returned (.slice (some ⟨g, 0, none⟩) m kg) ∧ Eo w' w.heap.size br R n g kg m vs ∧ (r.c = 0 → vs = r.l)

/-- outputs one after the other -/
def PSO (fs : List Fn) (ap : Option Addr) (capp br bp op n B f : Nat) : Prop :=
  ∀ (R : Nat → Prop) (fi : Nat) (o : Fo) (ao : Option Addr) (cao bf off : Nat) (ae : Option Addr) (ce : Nat) (vars : List (List Int)) (s : Nat) (c : Int) (w : World),
    3000 < f + s → s ≤ 3000 → fi ≤ fs.length → treeB fs (fi : Int) o (vars.length : Int) 0 0 = true → RnAt w br bp op n s c → w.cell? ⟨bp, op, none⟩ = some (.slice ap fs.length capp) → Pat w 0 B fs ap → w.cell? ⟨bf, off + 2, none⟩ = some (.slice ao o.len cao) → bf < B → Fat w 0 B o ao → o.len ≤ 1048576 → En w br R n ae vars → (∀ g, R g → g < w.heap.size) → vars.length ≤ 412 + s →
    Calls Tryz.prog 86 #[.pointer (some ⟨br, 0, none⟩), .pointer (some ⟨bf, off, none⟩), .slice ae vars.length ce] w (SLRes br bp op R n o.len w (lisX fs n f c o vars s o.len))

set_option maxRecDepth 100000 in
set_option maxHeartbeats 6400000 in
theorem sOuts {fs : List Fn} {ap : Option Addr} {capp br bp op n B f : Nat} (hBr : B ≤ br) (hbp : bp < B) (hV : PS fs ap capp br bp op n B f) : PSO fs ap capp br bp op n B f := by
  intro R fi o ao cao bf off ae ce vars s c w hf hs hfi ht hR hp hP hfc hbf hF hol hE hRb hvl
  obtain ⟨i1, hj, hy0, hy1, hy2⟩ := info_parts infoRowE
  have hbw := cell_lt hR.c0
  have b0 : Below w.heap.size w (w.alloc (.cells #[] 25)) := (Below.refl _ _).alloc (Nat.le_refl _) _
  have HO0 : Hid (Eo (w.alloc (.cells #[] 25)) w.heap.size br R n w.heap.size 0 0 []) := ⟨⟨[], World.ownsRow_made w #[] 0 (Nat.le_refl _) (by unfold maxLen; omega) rfl, fun i h => absurd h (Nat.not_lt_zero _)⟩, rfl, fun i h => absurd h (Nat.not_lt_zero _), fun i h => absurd h (Nat.not_lt_zero _)⟩
  have HK0 : Hid (Kp (fun b => b = br) w (w.alloc (.cells #[] 25))) := Kp.of_below b0
  have HR0 : Hid (RnAt (w.alloc (.cells #[] 25)) br bp op n (lisX fs n f c o vars s 0).s (lisX fs n f c o vars s 0).c) := by
    have e1 : (lisX fs n f c o vars s 0).s = s := by unfold lisX; split <;> rfl
    have e2 : (lisX fs n f c o vars s 0).c = c := by unfold lisX; split; (rename_i h; rw [h]; rfl); rfl
    show RnAt _ _ _ _ _ _ _
    rw [e1, e2]; exact hR.next b0
  have HL0 : Hid ((lisX fs n f c o vars s 0).c = 0 → ([] : List (List Int)) = (lisX fs n f c o vars s 0).l) := by
    intro _; unfold lisX; split <;> rfl
  have HP := Lib.hid hP
  have HF := Lib.hid hF
  have HE := Lib.hid hE
  clear hP hF hE hR b0
  go_enter Tryz.func86, Tryz.ntmps86
  go_wp2_with fail
  go_loopw [7, 8] (fun lv x wr => ∃ (i g kg : Nat) (vs : List (List Int)), i ≤ o.len ∧ x = .int .i64 i ∧ lv = .slice (some ⟨g, 0, none⟩) i kg ∧ Hid (Eo wr w.heap.size br R n g kg i vs) ∧ Hid (Kp (fun b => b = br) w wr) ∧ Hid (RnAt wr br bp op n (lisX fs n f c o vars s i).s (lisX fs n f c o vars s i).c) ∧ Hid ((lisX fs n f c o vars s i).c = 0 → vs = (lisX fs n f c o vars s i).l)) (fun _ x _ => o.len - (intOf x).toNat)
  case atStart => exact ⟨0, w.heap.size, 0, [], Nat.zero_le _, rfl, rfl, HO0.out, HK0.out, HR0.out, HL0.out⟩
  case round =>
    obtain ⟨i, g, kg, vs, hi, rfl, rfl, HO, HK, HR, HL⟩ := hrel
    clear HO0 HK0 HR0 HL0
    have hfw : wr.cell? ⟨bf, off + 2, none⟩ = some (.slice ao o.len cao) := HK.out.cell hfc (by omega)
    by_cases hlt : i < o.len
    · have hii : (i : Int) < (o.len : Int) := by omega
      have hFw := HF.out.keepE HK.out hBr hbw
      obtain ⟨b, oo, rfl, hbB⟩ := hFw.blk (by omega)
      obtain ⟨k, nn, p, cc, kk, a', cap', hd, hRR, hkl, x0, x1, x2, x3, x4, hFk⟩ := Fat.node hFw hlt
      obtain ⟨v1, v2⟩ := treeB_at o 0 i ht hd
      have hm : more 0 (0 + i) = 0 := by unfold more; rw [if_neg (by omega)]
      rw [hm, Int.add_zero] at v1 v2
      have hst := lisX_stp (fs := fs) (n := n) (c := c) (o := o) (vars := vars) hf hs i
      have hzr := HK.out.size
      have hgb := HO.out.base
      have HC := Lib.hid (hV R fi k nn p cc kk a' cap' b (oo + i * 5) ae ce vars (lisX fs n f c o vars s i).s (lisX fs n f c o vars s i).c wr (by omega) hst.2 hfi v1 v2 HR.out (HK.out.cell hp (by omega)) (HP.out.keepE HK.out hBr hbw) ⟨x0, x1, x2, x3, x4⟩ (by omega) hFk hkl (HE.out.keep HK.out) (fun g hg => Nat.lt_of_lt_of_le (hRb g hg) hzr) (by omega))
      obtain ⟨st1, st2, st3⟩ := lisX_step (fs := fs) (n := n) (f := f) (c := c) (vars := vars) (s := s) hd
      have HS1 := Lib.hid st1
      have HS2 := Lib.hid st2
      have HS3 := Lib.hid st3
      clear st1 st2 st3 v1 v2 hRR hFk hFw x0 x1 x2 x3 x4
      go_wp2_with fail
      refine HC.out.mono ?_; rintro e w2 ⟨k2, r2, a2, cap2, v, rfl, hvn, hvm, hvs, hvx, hve⟩
      have hO2 := HO.out.keep k2 hbw
      have hgb2 := hO2.base
      obtain ⟨us, hu1, hu2⟩ := hO2.top
      have hul : us.length = i := by have := hu1.1; omega
      have hz2 := k2.size
      have HU2 := Lib.hid hu2
      have HOL := Lib.hid (And.intro hO2.vl (And.intro hO2.len hO2.nums))
      have hK2 := HK.out.trans k2
      clear hu2 HO HK hO2
      go_wp2_with (at_builtin; refine wpList_append_lies _ rfl _ _ _ rfl w.heap.size 25 i1 _ 1 24 Tryz.underlying39 hj hy0 hy1 hy2 rfl (by omega) (.slice (some ⟨g, 0, none⟩) i kg) i us rfl (hu1.alloc _) ⟨w2.heap.size, 0, none⟩ 1 1 [.slice a2 n cap2] rfl rfl (World.news_of_block (cs := #[.slice a2 n cap2]) (t := 25) (fr := (0, 0)) (heap_alloc_new w2 _)) (by simp [Value.oneCell']) (by omega) (by unfold maxLen; omega) (by omega) (by simp; omega) (w2.heap.size + 1) (by simp) ?_; intro gg cg w4 hown4 hgrow hat hlt4)
      have hba : Below w2.heap.size w2 (w2.alloc (.cells #[.slice a2 n cap2] 25)) := (Below.refl _ _).alloc (Nat.le_refl _) _
      have hgg : gg = g ∨ w2.heap.size ≤ gg := by
        rcases hat with e | e
        · left; simp [Value.ownBlock] at e; exact e.symm
        · right; omega
      have HN := Lib.hid (eo_push HOL.out.1 HOL.out.2.1 HOL.out.2.2 hul HU2.out hba hown4 hgrow hgg hvs hvn hvm (fun gb hg => by rcases hvx gb hg with h | h; (exact ⟨by have := hRb gb h; omega, .inl h⟩); exact ⟨by omega, .inr (by omega)⟩))
      have HKN : Hid (Kp (fun b => b = br) w w4) := kp_grown (g := g) (hK2.more hba) hgrow hgb.1
      have HRN : Hid (RnAt w4 br bp op n (lisX fs n f c o vars s (i + 1)).s (lisX fs n f c o vars s (i + 1)).c) := by show RnAt _ _ _ _ _ _ _; rw [HS1.out, HS2.out]; exact (r2.next hba).grown (g := g) hgrow (by omega)
      have HLN : Hid ((lisX fs n f c o vars s (i + 1)).c = 0 → vs ++ [v] = (lisX fs n f c o vars s (i + 1)).l) := by
        intro h
        obtain ⟨h1, h2⟩ := HS3.out h
        rw [h2, HL.out h1, hve (by rw [← HS2.out]; exact h)]
      clear hown4 hgrow hat hu1 HC hve hvs hvx HOL HU2
      go_wp2_with fail
      go_roundw
      case rel => exact ⟨i + 1, gg, cg, vs ++ [v], by omega, by go_num, rfl, HN.out, HKN.out, HRN.out, HLN.out⟩
      case measure => simp [intOf]; omega
    · have hii : ¬ (i : Int) < (o.len : Int) := by omega
      obtain rfl : i = o.len := by omega
      go_wp2_with fail
      go_ret
      exact ⟨HK.out, HR.out, g, kg, vs, rfl, HO.out, HL.out⟩

end Go.Proofs.YtldbhhocoolloaaGreat

namespace Go.Proofs.YtldbhhocoolloaaGreat
open Go.RowKit
set_option linter.unusedVariables false

theorem below_grownE {w w1 w2 : World} {L g : Nat} (h : Below L w w1) (hg : w1.grownBy w2 (some g)) (hL : L ≤ w.heap.size) (hb : L ≤ g) : Below L w w2 :=
  ⟨hg.os.trans h.os, hg.tape.trans h.tape, hg.output.trans h.output, Nat.le_trans h.size hg.size, fun q hq => (hg.block q (Nat.lt_of_lt_of_le hq (Nat.le_trans hL h.size)) (by simp; omega)).trans (h.block q hq)⟩
theorem take_snocE {l : List (List Int)} {i : Nat} (h : i < l.length) : l.take (i + 1) = l.take i ++ [l.getD i []] := by
  rw [List.take_add_one, List.getD_eq_getElem?_getD, List.getElem?_eq_getElem h]; simp
theorem gg_at {a b gg : Nat} {v : Value} (h : v.ownBlock = some gg ∨ gg = b + 1) (hv : v.ownBlock = some a) : gg = a ∨ b ≤ gg := by
  rcases h with e | e
  · left; rw [hv] at e; cases e; rfl
  · right; omega

set_option maxRecDepth 100000 in
set_option maxHeartbeats 6400000 in
theorem sEnv {br n : Nat} {R : Nat → Prop} (ae : Option Addr) (ce : Nat) (vars : List (List Int)) (a : Option Addr) (cap : Nat) (v : List Int) (w : World) (hE : En w br R n ae vars) (hRb : ∀ g, R g → g < w.heap.size) (hvl : vars.length ≤ 4000) (hv : Ls w br a v) (hvn : v.length = n) (hvm : Nums v) (hvr : ∀ gb, blk a v = some gb → R gb) :
    Calls Tryz.prog 129 #[.slice ae vars.length ce, .slice a n cap] w (fun e w' => Below w.heap.size w w' ∧ ∃ g kg, e = .returned (.slice (some ⟨g, 0, none⟩) (vars.length + 1) kg) ∧ Eo w' w.heap.size br R n g kg (vars.length + 1) (vars ++ [v])) := by
  obtain ⟨i1, hj, hy0, hy1, hy2⟩ := info_parts infoRowE
  have b0 : Below w.heap.size w (w.alloc (.cells #[] 25)) := (Below.refl _ _).alloc (Nat.le_refl _) _
  have HO0 : Hid (Eo (w.alloc (.cells #[] 25)) w.heap.size br R n w.heap.size 0 0 (vars.take 0)) := ⟨⟨[], World.ownsRow_made w #[] 0 (Nat.le_refl _) (by unfold maxLen; omega) rfl, fun i h => absurd h (Nat.not_lt_zero _)⟩, rfl, fun i h => absurd h (Nat.not_lt_zero _), fun i h => absurd h (Nat.not_lt_zero _)⟩
  have HB0 := Lib.hid b0
  have HE := Lib.hid hE
  have HV := Lib.hid hv
  have HVR := Lib.hid hvr
  clear hE hv b0 hvr
  go_enter Tryz.func129, Tryz.ntmps129
  go_wp2_with fail
  go_loopw [5, 6] (fun lv x wr => ∃ (i g kg : Nat), i ≤ vars.length ∧ x = .int .i64 i ∧ lv = .slice (some ⟨g, 0, none⟩) i kg ∧ Hid (Eo wr w.heap.size br R n g kg i (vars.take i)) ∧ Hid (Below w.heap.size w wr)) (fun _ x _ => vars.length - (intOf x).toNat)
  case atStart => exact ⟨0, w.heap.size, 0, Nat.zero_le _, rfl, rfl, HO0.out, HB0.out⟩
  case round =>
    obtain ⟨i, g, kg, hi, rfl, rfl, HO, HB⟩ := hrel
    clear HO0 HB0
    have hgb := HO.out.base
    have hzr := HB.out.size
    obtain ⟨us, hu1, hu2⟩ := HO.out.top
    have hul : us.length = i := by have := hu1.1; omega
    have HU2 := Lib.hid hu2
    have HOL := Lib.hid (And.intro HO.out.vl (And.intro HO.out.len HO.out.nums))
    clear hu2 HO
    by_cases hlt : i < vars.length
    · have hii : (i : Int) < (vars.length : Int) := by omega
      obtain ⟨b, off, rfl, hbn, hbw, hall⟩ := (HE.out.next HB.out).rows.resolve_left (by intro e; rw [e] at hlt; simp at hlt)
      obtain ⟨ai, ci, hcell, hls, hR⟩ := hall i hlt
      have HLS := Lib.hid hls
      have HRR := Lib.hid hR
      clear hall hls hR
      go_wp2_with (at_builtin; refine wpList_append_lies _ rfl _ _ _ rfl w.heap.size 25 i1 _ 1 24 Tryz.underlying39 hj hy0 hy1 hy2 rfl (by omega) (.slice (some ⟨g, 0, none⟩) i kg) i us rfl (hu1.alloc _) ⟨wr.heap.size, 0, none⟩ 1 1 [.slice ai n ci] rfl rfl (World.news_of_block (cs := #[.slice ai n ci]) (t := 25) (fr := (0, 0)) (heap_alloc_new wr _)) (by simp [Value.oneCell']) (by omega) (by unfold maxLen; omega) (by omega) (by simp; omega) (wr.heap.size + 1) (by simp) ?_; intro gg cg w4 hown4 hgrow hat hlt4)
      have hba : Below wr.heap.size wr (wr.alloc (.cells #[.slice ai n ci] 25)) := (Below.refl _ _).alloc (Nat.le_refl _) _
      have hgg : gg = g ∨ wr.heap.size ≤ gg := gg_at hat rfl
      have HN := Lib.hid (eo_push HOL.out.1 HOL.out.2.1 HOL.out.2.2 hul HU2.out hba hown4 hgrow hgg HLS.out (HE.out.len i hlt) (HE.out.nums i hlt) (fun gb hg => ⟨by have := hRb gb (HRR.out gb hg); omega, .inl (HRR.out gb hg)⟩))
      rw [← take_snocE hlt] at HN
      have HBN := Lib.hid (below_grownE (g := g) (HB.out.trans (hba.mono hzr)) hgrow (Nat.le_refl _) hgb.1)
      clear hown4 hgrow hat hu1 HOL HU2 HLS HRR
      go_wp2_with fail
      go_roundw
      case rel => exact ⟨i + 1, gg, cg, by omega, by go_num, rfl, HN.out, HBN.out⟩
      case measure => simp [intOf]; omega
    · have hii : ¬ (i : Int) < (vars.length : Int) := by omega
      obtain rfl : i = vars.length := by omega
      go_wp2_with (at_builtin; refine wpList_append_lies _ rfl _ _ _ rfl w.heap.size 25 i1 _ 1 24 Tryz.underlying39 hj hy0 hy1 hy2 rfl (by omega) (.slice (some ⟨g, 0, none⟩) vars.length kg) vars.length us rfl (hu1.alloc _) ⟨wr.heap.size, 0, none⟩ 1 1 [.slice a n cap] rfl rfl (World.news_of_block (cs := #[.slice a n cap]) (t := 25) (fr := (0, 0)) (heap_alloc_new wr _)) (by simp [Value.oneCell']) (by omega) (by unfold maxLen; omega) (by omega) (by simp; omega) (wr.heap.size + 1) (by simp) ?_; intro gg cg w4 hown4 hgrow hat hlt4)
      have hba : Below wr.heap.size wr (wr.alloc (.cells #[.slice a n cap] 25)) := (Below.refl _ _).alloc (Nat.le_refl _) _
      have hgg : gg = g ∨ wr.heap.size ≤ gg := gg_at hat rfl
      have HN := Lib.hid (eo_push HOL.out.1 HOL.out.2.1 HOL.out.2.2 hul HU2.out hba hown4 hgrow hgg (HV.out.next HB.out) hvn hvm (fun gb hg => ⟨by have := hRb gb (HVR.out gb hg); omega, .inl (HVR.out gb hg)⟩))
      rw [List.take_length] at HN
      have HBN := Lib.hid (below_grownE (g := g) (HB.out.trans (hba.mono hzr)) hgrow (Nat.le_refl _) hgb.1)
      clear hown4 hgrow hat hu1 HOL HU2
      go_wp2_with fail
      go_ret
      exact ⟨HBN.out, gg, cg, rfl, HN.out⟩

end Go.Proofs.YtldbhhocoolloaaGreat

namespace Go.Proofs.YtldbhhocoolloaaGreat
open Go.RowKit
set_option linter.unusedVariables false

theorem lisX_zero {fs : List Fn} {n f : Nat} {o : Fo} {vars : List (List Int)} {s i : Nat} : lisX fs n f 0 o vars s i = lisE (sA n) (evE (sA n) fs f) o vars s i := by unfold lisX; rw [if_pos rfl]
theorem more_zero {q : Int} (h : q ≠ 9) (j : Nat) : more q j = 0 := by unfold more; rw [if_neg (fun e => h e.1)]
/-- outputs again and again, from a state that may have failed -/
def lopX (fs : List Fn) (n f : Nat) (o : Fo) (a : Rl (List Int)) (i : Nat) : Rl (List Int) := lopE (sA n) (evE (sA n) fs f) o a i
theorem SRes.up {br bp op n : Nat} {R R' : Nat → Prop} {w w1 : World} {r r' : Rv (List Int)} {e : Ending} {w' : World} (h : SRes br bp op R' n w1 r e w') (k : Kp (fun b => b = br) w w1) (hR : ∀ g, R' g → R g ∨ w.heap.size ≤ g) (hs : r'.s = r.s) (hc : r'.c = r.c) (hv : r.c = 0 → r'.v = r.v) : SRes br bp op R n w r' e w' := by
  obtain ⟨k2, h2, a, cap, v, rfl, hl, hn, hls, hx, hvv⟩ := h
  refine ⟨k.trans k2, by rw [hs, hc]; exact h2, a, cap, v, rfl, hl, hn, hls, fun g hg => ?_, fun h0 => ?_⟩
  · rcases hx g hg with h | h
    · exact hR g h
    · exact .inr (Nat.le_trans k.size h)
  · rw [hc] at h0; rw [hvv h0, hv h0]
theorem lisX_c {fs : List Fn} {n f : Nat} {c : Int} (hc : c ≠ 0) {o : Fo} {vars : List (List Int)} {s i : Nat} : lisX fs n f c o vars s i = ⟨[], s, c⟩ := by unfold lisX; rw [if_neg hc]
theorem callX_eq {fs : List Fn} {n f jp : Nat} {O : Fo} {r : Rl (List Int)} {vs : List (List Int)} {k nn p cc : Int} {kk rr : Fo} {R0 : Rv (List Int)} (hL : r.c = 0 → vs = r.l) (hd : Fo.drop jp O = .cons k nn p cc kk rr) (h0 : R0 = bindL (sA n) r (fun l s => atE (sA n) (evE (sA n) fs f) O jp l s)) :
    R0.s = (evX fs n f r.c k nn p cc kk vs r.s).s ∧ R0.c = (evX fs n f r.c k nn p cc kk vs r.s).c ∧ ((evX fs n f r.c k nn p cc kk vs r.s).c = 0 → R0.v = (evX fs n f r.c k nn p cc kk vs r.s).v) := by
  subst h0
  by_cases hc : r.c = 0
  · rw [hL hc]
    unfold bindL evX
    rw [if_pos hc, if_pos hc]
    dsimp only
    rw [atE_eq hd]
    exact ⟨rfl, rfl, fun _ => rfl⟩
  · unfold bindL evX
    rw [if_neg hc, if_neg hc]
    exact ⟨rfl, rfl, fun h => absurd h hc⟩
theorem lopX_step {fs : List Fn} {n f i : Nat} {O : Fo} {r : Rl (List Int)} {vs : List (List Int)} (hL : (lopE (sA n) (evE (sA n) fs f) O r i).c = 0 → vs = (lopE (sA n) (evE (sA n) fs f) O r i).l) :
    (lopE (sA n) (evE (sA n) fs f) O r (i + 1)).s = (lisX fs n f (lopE (sA n) (evE (sA n) fs f) O r i).c O vs (lopE (sA n) (evE (sA n) fs f) O r i).s O.len).s ∧ (lopE (sA n) (evE (sA n) fs f) O r (i + 1)).c = (lisX fs n f (lopE (sA n) (evE (sA n) fs f) O r i).c O vs (lopE (sA n) (evE (sA n) fs f) O r i).s O.len).c ∧
    ((lopE (sA n) (evE (sA n) fs f) O r (i + 1)).c = 0 → (lopE (sA n) (evE (sA n) fs f) O r (i + 1)).l = (lisX fs n f (lopE (sA n) (evE (sA n) fs f) O r i).c O vs (lopE (sA n) (evE (sA n) fs f) O r i).s O.len).l) := by
  by_cases hc : (lopE (sA n) (evE (sA n) fs f) O r i).c = 0
  · rw [lopE_step hc, ← hL hc, hc, lisX_zero]
    exact ⟨rfl, rfl, fun _ => rfl⟩
  · rw [lisX_c hc, lopE, if_neg hc]
    exact ⟨rfl, rfl, fun h => absurd h hc⟩
theorem lopX_end {n jp : Nat} {r : Rl (List Int)} {vs : List (List Int)} {R0 : Rv (List Int)} (hL : r.c = 0 → vs = r.l) (hj : jp < vs.length) (h0 : R0 = bindL (sA n) r (fun l s => ⟨l.getD jp ((sA n).cst 0), s, 0⟩)) : R0.s = r.s ∧ R0.c = r.c ∧ (R0.c = 0 → vs.getD jp [] = R0.v) := by
  subst h0
  unfold bindL
  by_cases hc : r.c = 0
  · rw [if_pos hc, ← hL hc]
    refine ⟨rfl, hc.symm, fun _ => ?_⟩
    dsimp only
    rw [List.getD_eq_getElem?_getD, List.getD_eq_getElem?_getD, List.getElem?_eq_getElem hj]; rfl
  · rw [if_neg hc]
    exact ⟨rfl, rfl, fun h => absurd h hc⟩
/-- the lists of a state, wherever they lie -/
structure Ep (W : World) (L br : Nat) (R : Nat → Prop) (n : Nat) (lv : Value) (m : Nat) (vars : List (List Int)) : Prop where
  ex : ∃ g kg, lv = .slice (some ⟨g, 0, none⟩) m kg ∧ En W br (fun q => R q ∨ L ≤ q ∧ q < W.heap.size) n (some ⟨g, 0, none⟩) vars
  vl : vars.length = m
theorem Eo.ep {W : World} {L br n g kg k : Nat} {R : Nat → Prop} {vars : List (List Int)} (h : Eo W L br R n g kg k vars) (hb : br < L) : Ep W L br R n (.slice (some ⟨g, 0, none⟩) k kg) k vars := ⟨⟨g, kg, rfl, h.en hb⟩, h.vl⟩
theorem Eo.down {W : World} {L L' br n g kg k : Nat} {R R' : Nat → Prop} {vars : List (List Int)} (h : Eo W L' br R' n g kg k vars) (hL : L ≤ L') (hR : ∀ q, R' q → R q ∨ L ≤ q ∧ q < L') (hb : br < L') : Ep W L br R n (.slice (some ⟨g, 0, none⟩) k kg) k vars :=
  ⟨⟨g, kg, rfl, (h.en hb).up fun q hq => by
    have hgb := h.base
    rcases hq with hq | hq
    · rcases hR q hq with h1 | h1
      · exact .inl h1
      · exact .inr ⟨h1.1, by omega⟩
    · exact .inr ⟨by omega, hq.2⟩⟩, h.vl⟩

set_option maxRecDepth 100000 in
set_option maxHeartbeats 12800000 in
theorem sCall {fs : List Fn} {ap : Option Addr} {capp br bp op n B f : Nat} (hBr : B ≤ br) (hbp : bp < B) (hV : PS fs ap capp br bp op n B f) (hVO : PSO fs ap capp br bp op n B f) (hFn : ∀ i, i < fs.length → fnB fs i = true) (hfl : fs.length ≤ 1048576)
    (R : Nat → Prop) (fi : Nat) (k nn p cc : Int) (ks : Fo) (a : Option Addr) (cap b off : Nat) (ae : Option Addr) (ce : Nat) (vars : List (List Int)) (s : Nat) (w : World)
    (hk : k = 10 ∨ k = 11) (hf : 3000 < f + s) (hs : s ≤ 3000) (hfi : fi ≤ fs.length) (hn : 0 ≤ nn ∧ nn < (fi : Int)) (hpp : 0 ≤ p ∧ p < ((fs.getD nn.toNat noFn).outs.len : Int)) (hm : (ks.len : Int) = (fs.getD nn.toNat noFn).params) (h11 : k = 11 → (0 ≤ cc ∧ cc ≤ 8) ∧ ((fs.getD nn.toNat noFn).outs.len : Int) = (fs.getD nn.toNat noFn).params)
    (ht : treeB fs (fi : Int) ks (vars.length : Int) k 0 = true) (hR : RnAt w br bp op n s 0) (hp : w.cell? ⟨bp, op, none⟩ = some (.slice ap fs.length capp)) (hP : Pat w 0 B fs ap) (hN : NodeAt w b off k nn p cc ks.len a cap) (hbB : b < B) (hF : Fat w 0 B ks a) (hkl : ks.len ≤ maxLen) (hE : En w br R n ae vars) (hRb : ∀ g, R g → g < w.heap.size) (hvl : vars.length ≤ 412 + s) :
    Calls Tryz.prog 130 #[.pointer (some ⟨br, 0, none⟩), .pointer (some ⟨b, off, none⟩), .slice ae vars.length ce] w
      (SRes br bp op R n w (if k = 10 then bindL (sA n) (lisE (sA n) (evE (sA n) fs f) ks vars s ks.len) (fun l s => atE (sA n) (evE (sA n) fs f) (fs.getD nn.toNat noFn).outs p.toNat l s) else bindL (sA n) (lopE (sA n) (evE (sA n) fs f) (fs.getD nn.toNat noFn).outs (lisE (sA n) (evE (sA n) fs f) ks vars s ks.len) cc.toNat) (fun l s => ⟨l.getD p.toNat ((sA n).cst 0), s, 0⟩))) := by
  obtain ⟨i1, hj, hy0, hy1, hy2⟩ := info_parts infoRowE
  have hbw := cell_lt hR.c0
  obtain ⟨j, rfl⟩ := Int.eq_ofNat_of_zero_le hn.1
  obtain ⟨jp, rfl⟩ := Int.eq_ofNat_of_zero_le hpp.1
  have hjf : j < fs.length := by omega
  rw [show (j : Int).toNat = j from rfl] at hpp hm h11 ⊢
  rw [show (jp : Int).toNat = jp from rfl]
  obtain ⟨g1, g2, g3⟩ := fn_parts (hFn j hjf)
  have hk9 : k ≠ 9 := by omega
  obtain ⟨R0, hR0⟩ : ∃ R0, R0 = (if k = 10 then bindL (sA n) (lisE (sA n) (evE (sA n) fs f) ks vars s ks.len) (fun l s => atE (sA n) (evE (sA n) fs f) (fs.getD j noFn).outs jp l s) else bindL (sA n) (lopE (sA n) (evE (sA n) fs f) (fs.getD j noFn).outs (lisE (sA n) (evE (sA n) fs f) ks vars s ks.len) cc.toNat) (fun l s => ⟨l.getD jp ((sA n).cst 0), s, 0⟩)) := ⟨_, rfl⟩
  rw [← hR0]
  have HR0 := Lib.hid hR0
  have b0 : Below w.heap.size w (w.alloc (.cells #[] 25)) := (Below.refl _ _).alloc (Nat.le_refl _) _
  have HO0 : Hid (Eo (w.alloc (.cells #[] 25)) w.heap.size br R n w.heap.size 0 0 []) := ⟨⟨[], World.ownsRow_made w #[] 0 (Nat.le_refl _) (by unfold maxLen; omega) rfl, fun i h => absurd h (Nat.not_lt_zero _)⟩, rfl, fun i h => absurd h (Nat.not_lt_zero _), fun i h => absurd h (Nat.not_lt_zero _)⟩
  have HK0 : Hid (Kp (fun b => b = br) w (w.alloc (.cells #[] 25))) := Kp.of_below b0
  have HR0w : Hid (RnAt (w.alloc (.cells #[] 25)) br bp op n (lisX fs n f 0 ks vars s 0).s (lisX fs n f 0 ks vars s 0).c) := by
    show RnAt _ _ _ _ _ _ _
    rw [lisX_zero]; exact hR.next b0
  have HL0 : Hid ((lisX fs n f 0 ks vars s 0).c = 0 → ([] : List (List Int)) = (lisX fs n f 0 ks vars s 0).l) := by
    show _ → _; intro _; rw [lisX_zero]; rfl
  have HP := Lib.hid hP
  have HF := Lib.hid hF
  have HE := Lib.hid hE
  have HN := Lib.hid hN
  have HH11 := Lib.hid h11
  have HM := Lib.hid hm
  have hks : ks.len ≤ 12 := by omega
  clear hP hF hE hR b0 hN h11 hR0 hm
  go_enter Tryz.func130, Tryz.ntmps130
  go_wp2_with fail
  go_loopw [7, 8] (fun lv x wr => ∃ (i g kg : Nat) (vs : List (List Int)), i ≤ ks.len ∧ x = .int .i64 i ∧ lv = .slice (some ⟨g, 0, none⟩) i kg ∧ Hid (Eo wr w.heap.size br R n g kg i vs) ∧ Hid (Kp (fun b => b = br) w wr) ∧ Hid (RnAt wr br bp op n (lisX fs n f 0 ks vars s i).s (lisX fs n f 0 ks vars s i).c) ∧ Hid ((lisX fs n f 0 ks vars s i).c = 0 → vs = (lisX fs n f 0 ks vars s i).l)) (fun _ x _ => ks.len - (intOf x).toNat)
  case atStart => exact ⟨0, w.heap.size, 0, [], Nat.zero_le _, rfl, rfl, HO0.out, HK0.out, HR0w.out, HL0.out⟩
  case round =>
    obtain ⟨i, g, kg, vs, hi, rfl, rfl, HO, HK, HR, HL⟩ := hrel
    clear HO0 HK0 HR0w HL0
    obtain ⟨n0, n1, n2, n3, n4⟩ := HN.out
    replace n0 := HK.out.cell n0 (by omega)
    replace n1 := HK.out.cell n1 (by omega)
    replace n2 := HK.out.cell n2 (by omega)
    replace n3 := HK.out.cell n3 (by omega)
    replace n4 := HK.out.cell n4 (by omega)
    by_cases hlt : i < ks.len
    · have hii : (i : Int) < (ks.len : Int) := by omega
      have hFw := HF.out.keepE HK.out hBr hbw
      obtain ⟨b1, oo, rfl, hbB1⟩ := hFw.blk (by omega)
      obtain ⟨k', nn', p', cc', kk, a', cap', hd, hRR, hkl', x0, x1, x2, x3, x4, hFk⟩ := Fat.node hFw hlt
      obtain ⟨v1, v2⟩ := treeB_at ks 0 i ht hd
      rw [more_zero hk9, Int.add_zero] at v1 v2
      have hst := lisX_stp (fs := fs) (n := n) (c := 0) (o := ks) (vars := vars) hf hs i
      have hzr := HK.out.size
      have hgb := HO.out.base
      have HC := Lib.hid (hV R fi k' nn' p' cc' kk a' cap' b1 (oo + i * 5) ae ce vars (lisX fs n f 0 ks vars s i).s (lisX fs n f 0 ks vars s i).c wr (by omega) hst.2 hfi v1 v2 HR.out (HK.out.cell hp (by omega)) (HP.out.keepE HK.out hBr hbw) ⟨x0, x1, x2, x3, x4⟩ (by omega) hFk hkl' (HE.out.keep HK.out) (fun g hg => Nat.lt_of_lt_of_le (hRb g hg) hzr) (by omega))
      obtain ⟨st1, st2, st3⟩ := lisX_step (fs := fs) (n := n) (f := f) (c := 0) (vars := vars) (s := s) hd
      have HS1 := Lib.hid st1
      have HS2 := Lib.hid st2
      have HS3 := Lib.hid st3
      clear st1 st2 st3 v1 v2 hRR hFk hFw x0 x1 x2 x3 x4 n0 n1 n2 n3
      go_wp2_with fail
      refine HC.out.mono ?_; rintro e w2 ⟨k2, r2, a2, cap2, v, rfl, hvn, hvm, hvs, hvx, hve⟩
      have hO2 := HO.out.keep k2 hbw
      have hgb2 := hO2.base
      obtain ⟨us, hu1, hu2⟩ := hO2.top
      have hul : us.length = i := by have := hu1.1; omega
      have hz2 := k2.size
      have HU2 := Lib.hid hu2
      have HOL := Lib.hid (And.intro hO2.vl (And.intro hO2.len hO2.nums))
      have hK2 := HK.out.trans k2
      clear hu2 HO HK hO2 n4
      go_wp2_with (at_builtin; refine wpList_append_lies _ rfl _ _ _ rfl w.heap.size 25 i1 _ 1 24 Tryz.underlying39 hj hy0 hy1 hy2 rfl (by omega) (.slice (some ⟨g, 0, none⟩) i kg) i us rfl (hu1.alloc _) ⟨w2.heap.size, 0, none⟩ 1 1 [.slice a2 n cap2] rfl rfl (World.news_of_block (cs := #[.slice a2 n cap2]) (t := 25) (fr := (0, 0)) (heap_alloc_new w2 _)) (by simp [Value.oneCell']) (by omega) (by unfold maxLen; omega) (by omega) (by simp; omega) (w2.heap.size + 1) (by simp) ?_; intro gg cg w4 hown4 hgrow hat hlt4)
      have hba : Below w2.heap.size w2 (w2.alloc (.cells #[.slice a2 n cap2] 25)) := (Below.refl _ _).alloc (Nat.le_refl _) _
      have hgg : gg = g ∨ w2.heap.size ≤ gg := gg_at hat rfl
      have HNN := Lib.hid (eo_push HOL.out.1 HOL.out.2.1 HOL.out.2.2 hul HU2.out hba hown4 hgrow hgg hvs hvn hvm (fun gb hg => by rcases hvx gb hg with h | h; (exact ⟨by have := hRb gb h; omega, .inl h⟩); exact ⟨by omega, .inr (by omega)⟩))
      have HKN : Hid (Kp (fun b => b = br) w w4) := kp_grown (g := g) (hK2.more hba) hgrow hgb.1
      have HRN : Hid (RnAt w4 br bp op n (lisX fs n f 0 ks vars s (i + 1)).s (lisX fs n f 0 ks vars s (i + 1)).c) := by show RnAt _ _ _ _ _ _ _; rw [HS1.out, HS2.out]; exact (r2.next hba).grown (g := g) hgrow (by omega)
      have HLN : Hid ((lisX fs n f 0 ks vars s (i + 1)).c = 0 → vs ++ [v] = (lisX fs n f 0 ks vars s (i + 1)).l) := by
        show _ → _
        intro h
        obtain ⟨h1, h2⟩ := HS3.out h
        rw [h2, HL.out h1, hve (by rw [← HS2.out]; exact h)]
      clear hown4 hgrow hat hu1 HC hve hvs hvx HOL HU2
      go_wp2_with fail
      go_roundw
      case rel => exact ⟨i + 1, gg, cg, vs ++ [v], by omega, by go_num, rfl, HNN.out, HKN.out, HRN.out, HLN.out⟩
      case measure => simp [intOf]; omega
    · have hii : ¬ (i : Int) < (ks.len : Int) := by omega
      obtain rfl : i = ks.len := by omega
      have hst := lisX_stp (fs := fs) (n := n) (c := 0) (o := ks) (vars := vars) hf hs ks.len
      have HLX : Hid (lisX fs n f 0 ks vars s ks.len = lisE (sA n) (evE (sA n) fs f) ks vars s ks.len) := lisX_zero
      have HSL := Lib.hid (fun i => lopE_stp (A := sA n) (evE_stp (A := sA n) fs f s hf) (fs.getD j noFn).outs (lisX fs n f 0 ks vars s ks.len) hst.1 hst.2 i)
      generalize lisX fs n f 0 ks vars s ks.len = r at *
      rw [← HLX.out] at HR0
      clear HLX
      have x0 := HR.out.c0
      have x1 := HK.out.cell hp (by omega)
      have hzr := HK.out.size
      have hgb := HO.out.base
      have hvl2 := HO.out.vl
      have hji : (j : Int) < (fs.length : Int) := by omega
      obtain ⟨bf, of, rfl, hbBf, hall⟩ := (HP.out.keepE HK.out hBr hbw).resolve_left (by intro e; rw [e] at hjf; simp at hjf)
      obtain ⟨hrr, af, cf, f0, f1, f2, hFo⟩ := hall j hjf
      obtain ⟨bo, oo, rfl, hoB⟩ := hFo.blk (by omega)
      have HFO := Lib.hid hFo
      have HEN := Lib.hid (HO.out.en hbw)
      have HEP := Lib.hid (HO.out.ep hbw)
      clear hall hrr f0 f1 hFo HO
      by_cases hkk : k = 10
      · subst hkk
        have hjp : jp < (fs.getD j noFn).outs.len := by omega
        obtain ⟨k', nn', p', cc', kk, a', cap', hd, hRR, hkl', t0, t1, t2, t3, t4, hFk⟩ := Fat.node HFO.out hjp
        obtain ⟨v1, v2⟩ := treeB_at (fs.getD j noFn).outs 0 jp g3 hd
        have hlp : (vs.length : Int) = (fs.getD j noFn).params := by rw [hvl2]; exact HM.out
        rw [more_zero (by decide), Int.add_zero, ← hlp] at v1 v2
        have hbo : bo < wr.heap.size := by omega
        have HVC := fun (W : World) (hk : Below wr.heap.size wr W) (hz : W.heap.size = wr.heap.size) => Lib.hid (hV (fun q => R q ∨ w.heap.size ≤ q ∧ q < wr.heap.size) j k' nn' p' cc' kk a' cap' bo (oo + jp * 5) (some ⟨g, 0, none⟩) kg vs r.s r.c W (by omega) hst.2 (by omega) v1 v2 (HR.out.next hk) ((hk.cell (p := ⟨bp, op, none⟩) (by show bp < _; omega)).trans x1) ((HP.out.keepE HK.out hBr hbw).below (hk.mono (by omega))) ⟨(hk.cell (p := ⟨bo, _, none⟩) hbo).trans t0, (hk.cell (p := ⟨bo, _, none⟩) hbo).trans t1, (hk.cell (p := ⟨bo, _, none⟩) hbo).trans t2, (hk.cell (p := ⟨bo, _, none⟩) hbo).trans t3, (hk.cell (p := ⟨bo, _, none⟩) hbo).trans t4⟩ (by omega) (hFk.agree (fun j _ h2 => hk.block j (by omega))) hkl' (HEN.out.next hk) (fun q hq => by rcases hq with hq | hq; (have := hRb q hq; omega); omega) (by omega))
        rw [hvl2] at HVC
        have HRS := Lib.hid (callX_eq (R0 := R0) HL.out hd (HR0.out.trans (if_pos rfl)))
        have hjpi : (jp : Int) < ((fs.getD j noFn).outs.len : Int) := by omega
        clear HEN HEP HSL v1 v2 hRR t0 t1 t2 t3 t4 hFk hlp hd HR0 HL hvl2
        generalize (fs.getD j noFn).outs.len = ml at *
        go_wp2_with fail
        go_region
        go_wp2_with fail
        go_region_with (go_at_call 111; refine (HVC _ (by exact ((Below.refl _ _).drew).drew) (by rfl)).out.mono ?_; rintro e w9 ⟨k8, h8, a8, cap8, v8, rfl, hl8, hn8, hls8, hx8, hvv8⟩)
        all_goals
          obtain ⟨k9, h9, a9, cap9, v9, e9, hl9, hn9, hls9, hx9, hvv9⟩ := (show SRes br bp op (fun q => R q ∨ w.heap.size ≤ q ∧ q < wr.heap.size) n wr.drew.drew (evX fs n f r.c k' nn' p' cc' kk vs r.s) (.returned (.slice a8 n cap8)) _ from ⟨k8, h8, a8, cap8, v8, rfl, hl8, hn8, hls8, hx8, hvv8⟩).up (R := R) (w := w) (r' := R0) ((HK.out.more (Below.refl _ _).drew).more (Below.refl _ _).drew) (fun q hq => hq.imp id And.left) HRS.out.1 HRS.out.2.1 HRS.out.2.2
          go_wp2_with fail
          go_ret
          exact ⟨k9, h9, a9, cap9, v9, e9, hl9, hn9, hls9, hx9, hvv9⟩
      · obtain rfl : k = 11 := by omega
        obtain ⟨⟨hc0, hc8⟩, hop⟩ := HH11.out rfl
        obtain ⟨m, rfl⟩ := Int.eq_ofNat_of_zero_le hc0
        have hlen : (fs.getD j noFn).outs.len = ks.len := by have := HM.out; omega
        have HRR : Hid (R0 = bindL (sA n) (lopE (sA n) (evE (sA n) fs f) (fs.getD j noFn).outs r m) (fun l s => ⟨l.getD jp ((sA n).cst 0), s, 0⟩)) := HR0.out.trans (if_neg hkk)
        have HG3 : Hid (treeB fs (j : Int) (fs.getD j noFn).outs ((ks.len : Nat) : Int) 0 0 = true) := by show _ = _; rw [HM.out]; exact g3
        have HLEN := Lib.hid hlen
        have HEP0 : Hid (Ep wr.drew w.heap.size br R n (.slice (some ⟨g, 0, none⟩) ks.len kg) ks.len vs) := ⟨⟨g, kg, rfl, HEN.out.next (Below.refl _ _).drew⟩, hvl2⟩
        have HRW : Hid (RnAt wr.drew br bp op n (lopE (sA n) (evE (sA n) fs f) (fs.getD j noFn).outs r 0).s (lopE (sA n) (evE (sA n) fs f) (fs.getD j noFn).outs r 0).c) := HR.out.next (Below.refl _ _).drew
        have HLW : Hid ((lopE (sA n) (evE (sA n) fs f) (fs.getD j noFn).outs r 0).c = 0 → vs = (lopE (sA n) (evE (sA n) fs f) (fs.getD j noFn).outs r 0).l) := HL.out
        rw [hlen] at f2 hpp
        clear HEN hop HR0 HL HH11 g3 hlen g2
        generalize (fs.getD j noFn).outs = O at *
        have HKW : Hid (Kp (fun b => b = br) wr wr.drew) := Kp.of_below (Below.refl _ _).drew
        have HFC := Lib.hid f2
        have HN1 : Hid (NodeAt wr b off 11 j jp m ks.len a cap) := ⟨n0, n1, n2, n3, n4⟩
        go_wp2_with fail
        go_region
        go_wp2_with fail
        clear HEP n0 n1 n2 n3 n4 f2 x0 x1 HR
        obtain ⟨wA, rfl⟩ : ∃ wA, wA = wr := ⟨_, rfl⟩
        go_loopw [7, 10] (fun lv x wr => ∃ (i : Nat) (us : List (List Int)), i ≤ m ∧ x = .int .i64 i ∧ Hid (Kp (fun b => b = br) wA wr) ∧ Hid (Ep wr w.heap.size br R n lv ks.len us) ∧ Hid (RnAt wr br bp op n (lopE (sA n) (evE (sA n) fs f) O r i).s (lopE (sA n) (evE (sA n) fs f) O r i).c) ∧ Hid ((lopE (sA n) (evE (sA n) fs f) O r i).c = 0 → us = (lopE (sA n) (evE (sA n) fs f) O r i).l)) (fun _ x _ => m - (intOf x).toNat)
        case atStart => exact ⟨0, vs, Nat.zero_le _, rfl, HKW.out, HEP0.out, HRW.out, HLW.out⟩
        case round =>
          obtain ⟨i, us, hi, rfl, HK3, HE3, HR3, HL3⟩ := hrel
          clear HKW HEP0 HRW HLW
          obtain ⟨m0, m1, m2, m3, m4⟩ := HN1.out
          replace m0 := HK3.out.cell m0 (by omega)
          replace m1 := HK3.out.cell m1 (by omega)
          replace m2 := HK3.out.cell m2 (by omega)
          replace m3 := HK3.out.cell m3 (by omega)
          have f2 := HK3.out.cell HFC.out (by omega)
          obtain ⟨⟨g3, kg3, rfl, hen3⟩, hvl3⟩ := HE3.out
          have hs3 := HSL.out i
          have HEN3 := Lib.hid hen3
          have hz3 := HK3.out.size
          clear hen3 HE3
          by_cases hlt : i < m
          · have hii : (i : Int) < (m : Int) := by omega
            have HC := Lib.hid (hVO (fun q => R q ∨ w.heap.size ≤ q ∧ q < wr.heap.size) j O (some ⟨bo, oo, none⟩) cf bf (of + j * 3) (some ⟨g3, 0, none⟩) kg3 us (lopE (sA n) (evE (sA n) fs f) O r i).s (lopE (sA n) (evE (sA n) fs f) O r i).c wr (by omega) hs3.2 (by omega) (by rw [hvl3]; exact HG3.out) HR3.out (HK3.out.cell (HK.out.cell hp (by omega)) (by omega)) ((HP.out.keepE HK.out hBr hbw).keepE HK3.out hBr (by omega)) (by rw [HLEN.out]; exact f2) (by omega) (HFO.out.keepE HK3.out hBr (by omega)) (by rw [HLEN.out]; omega) HEN3.out (fun q hq => by rcases hq with hq | hq; (have := hRb q hq; omega); omega) (by omega))
            rw [hvl3] at HC
            have HST := Lib.hid (lopX_step (n := n) (f := f) (fs := fs) (O := O) HL3.out)
            clear m0 m1 m2 f2
            go_wp2_with fail
            refine HC.out.mono ?_; rintro e w9 ⟨k9, r9, g9, kg9, vs9, rfl, ho9, hv9⟩
            rw [HLEN.out] at ho9 ⊢
            have HK9 := Lib.hid (HK3.out.trans k9)
            have HE9 := Lib.hid (ho9.down (L := w.heap.size) (R := R) (by omega) (fun q hq => hq) (by omega))
            have HR9 : Hid (RnAt w9 br bp op n (lopE (sA n) (evE (sA n) fs f) O r (i + 1)).s (lopE (sA n) (evE (sA n) fs f) O r (i + 1)).c) := by show RnAt _ _ _ _ _ _ _; rw [HST.out.1, HST.out.2.1]; exact r9
            have HL9 : Hid ((lopE (sA n) (evE (sA n) fs f) O r (i + 1)).c = 0 → vs9 = (lopE (sA n) (evE (sA n) fs f) O r (i + 1)).l) := by
              show _ → _; intro h; rw [HST.out.2.2 h]; exact hv9 (by rw [← HST.out.2.1]; exact h)
            clear HC ho9 r9 k9 hv9 HST HEN3 HL3 HR3
            go_wp2_with fail
            go_roundw
            case rel => exact ⟨i + 1, vs9, by omega, by go_num, HK9.out, HE9.out, HR9.out, HL9.out⟩
            case measure => simp [intOf]; omega
          · have hii : ¬ (i : Int) < (m : Int) := by omega
            obtain rfl : i = m := by omega
            obtain ⟨b7, o7, e7, hbn7, hbw7, hall7⟩ := HEN3.out.rows.resolve_left (by intro e; rw [e] at hvl3; simp at hvl3; omega)
            cases e7
            obtain ⟨ai, ci, hcell, hls, hRq⟩ := hall7 jp (by omega)
            rw [Nat.zero_add] at hcell
            have HEND := Lib.hid (lopX_end (n := n) HL3.out (by omega) HRR.out)
            have HLS := Lib.hid hls
            have HRQ := Lib.hid hRq
            have hji : (jp : Int) < (ks.len : Int) := by omega
            clear hall7 hls hRq f2 m0 m1
            go_wp2_with fail
            go_ret
            refine ⟨HK.out.trans HK3.out, by rw [HEND.out.1, HEND.out.2.1]; exact HR3.out, ai, ci, _, rfl, HEN3.out.len jp (by omega), HEN3.out.nums jp (by omega), HLS.out, fun q hq => (HRQ.out q hq).imp id And.left, HEND.out.2.2⟩

end Go.Proofs.YtldbhhocoolloaaGreat

namespace Go.Proofs.YtldbhhocoolloaaGreat
open Go.RowKit
set_option linter.unusedVariables false

theorem addl_numsE (a b : List Int) : Nums (addl a b) := tab_nms _ fun _ => pls_bd _ _
theorem divl_numsE (a b : List Int) : Nums (divl a b) := dvs_nms _ _ _ _
theorem NodeAt.keepN {w w' : World} {br b off : Nat} {k n p c : Int} {m : Nat} {a : Option Addr} {cap : Nat} (h : NodeAt w b off k n p c m a cap) (q : Kp (fun b => b = br) w w') (hb : b ≠ br) : NodeAt w' b off k n p c m a cap := by
  obtain ⟨h0, h1, h2, h3, h4⟩ := h
  exact ⟨q.cell h0 hb, q.cell h1 hb, q.cell h2 hb, q.cell h3 hb, q.cell h4 hb⟩
theorem SRes.fresh {br bp op n g cap : Nat} {R : Nat → Prop} {w w2 w' : World} {r : Rv (List Int)} {l : List Int} (k : Kp (fun b => b = br) w w2) (h : RnAt w2 br bp op n r.s r.c) (hb : Below w2.heap.size w2 w') (ho : Own w2.heap.size w' g cap l) (hl : l.length = n) (hn : Nums l) (hv : r.c = 0 → l = r.v) : SRes br bp op R n w r (.returned (.slice (some ⟨g, 0, none⟩) n cap)) w' := by
  have hbw := cell_lt h.c0
  have hgb := ho.base
  have hk := k.size
  exact .mk (k.more hb) (h.next hb) hl hn (ho.ls hbw) (fun g' hg => .inr (by have := blk_eqE hg; omega)) hv
theorem bindX_eq {fs : List Fn} {n f : Nat} {X : Rv (List Int)} {k nn p cc : Int} {kk : Fo} {vars : List (List Int)} {g : List Int → Nat → Rv (List Int)} {R0 : Rv (List Int)} (h0 : R0 = bindE X g) (hg : X.c = 0 → g X.v X.s = evE (sA n) fs f k nn p cc kk vars X.s) :
    R0.s = (evX fs n f X.c k nn p cc kk vars X.s).s ∧ R0.c = (evX fs n f X.c k nn p cc kk vars X.s).c ∧ ((evX fs n f X.c k nn p cc kk vars X.s).c = 0 → R0.v = (evX fs n f X.c k nn p cc kk vars X.s).v) := by
  subst h0
  unfold bindE evX
  by_cases hc : X.c = 0
  · rw [if_pos hc, if_pos hc, hg hc]; exact ⟨rfl, rfl, fun _ => rfl⟩
  · rw [if_neg hc, if_neg hc]; exact ⟨rfl, rfl, fun h => absurd h hc⟩
/-- two kids, one after the other -/
theorem op_eq {fs : List Fn} {n f s : Nat} {k k0 n0 p0 c0 k1 n1 p1 c1 : Int} {ks kk0 kk1 : Fo} {vars : List (List Int)} (h2 : ks.len = 2) (hd0 : Fo.drop 0 ks = .cons k0 n0 p0 c0 kk0 (Fo.drop 1 ks)) (hd1 : Fo.drop 1 ks = .cons k1 n1 p1 c1 kk1 (Fo.drop 2 ks)) {X Y R0 : Rv (List Int)} (hX : X = evX fs n f 0 k0 n0 p0 c0 kk0 vars s) (hY : Y = evX fs n f X.c k1 n1 p1 c1 kk1 vars X.s) (h0 : R0 = bindL (sA n) (lisE (sA n) (evE (sA n) fs f) ks vars s ks.len) fun l s => opE (sA n) k l s) :
    (Y.c ≠ 0 → R0.s = Y.s ∧ R0.c = Y.c) ∧ (Y.c = 0 → X.c = 0 ∧ R0 = opE (sA n) k [X.v, Y.v] Y.s) := by
  rw [h2, ← lisX_zero] at h0
  obtain ⟨a1, a2, a3⟩ := lisX_step (fs := fs) (n := n) (f := f) (c := 0) (vars := vars) (s := s) hd0
  obtain ⟨b1, b2, b3⟩ := lisX_step (fs := fs) (n := n) (f := f) (c := 0) (vars := vars) (s := s) hd1
  have e0 : lisX fs n f 0 ks vars s 0 = ⟨[], s, 0⟩ := by rw [lisX_zero]; rfl
  rw [e0] at a1 a2 a3
  dsimp only at a1 a2 a3
  rw [← hX] at a1 a2 a3
  rw [a1, a2, ← hY] at b1 b2 b3
  refine ⟨fun h => ?_, fun h => ?_⟩
  · rw [h0]; unfold bindL; rw [if_neg (by rw [b2]; exact h)]; exact ⟨b1, b2⟩
  · have h' : (lisX fs n f 0 ks vars s (1 + 1)).c = 0 := by rw [b2]; exact h
    obtain ⟨h1, h3⟩ := b3 h'
    have h4 : (lisX fs n f 0 ks vars s (0 + 1)).c = 0 := by rw [a2]; exact h1
    obtain ⟨_, h5⟩ := a3 h4
    refine ⟨h1, ?_⟩
    rw [h0]; unfold bindL; rw [if_pos h', h3, b1]
    rw [show lisX fs n f 0 ks vars s 1 = lisX fs n f 0 ks vars s (0 + 1) from rfl, h5]; rfl
theorem sSubE (n : Nat) (a b : Option Addr) (ca cb : Nat) (l m : List Int) (w : World) (ha : At w a l) (hb : At w b m) (hr : Nums l) (hr2 : Nums m) (h : l.length = n) (h' : m.length = n) (hl : n ≤ 1048576) :
    Calls Tryz.prog 131 #[.slice a n ca, .slice b n cb] w (FreshN w n (addl l (scll m 1000002))) := by
  have H := Lib.hid h
  have H' := Lib.hid h'
  have H2 : Hid ((scll m 1000002).length = n) := by show _ = _; rw [scll_len]; exact h'
  have HS := Lib.hid (sScale n b cb m 1000002 w hb H' hl hr2 (by omega))
  clear h h'
  go_enter Tryz.func131, Tryz.ntmps131
  go_wp2_with fail
  refine HS.out.mono ?_; rintro e w1 ⟨g1, c1, rfl, o1, b1⟩
  have HA := Lib.hid (sAddN n a (some ⟨g1, 0, none⟩) ca c1 l (scll m 1000002) w1 (ha.below b1 (Nat.le_refl _)) o1.at hr (scll_nums _ _) H H2 hl)
  go_wp2_with fail
  refine HA.out.mono ?_; rintro e w2 ⟨g2, c2, rfl, o2, b2⟩
  go_wp2_with fail
  go_ret
  exact ⟨g2, c2, rfl, o2.mono b1.size, b1.trans (b2.mono b1.size)⟩
/-- a kid -/
theorem kidE {fs : List Fn} {ap : Option Addr} {capp br bp op n B f : Nat} (hBr : B ≤ br) (hbp : bp < B) (hV : PS fs ap capp br bp op n B f) {fi vl : Nat} {k : Int} {ks : Fo} {b2 o2 : Nat} {w : World} (hbw : br < w.heap.size) (hfi : fi ≤ fs.length) (ht : treeB fs (fi : Int) ks (vl : Int) k 0 = true) (hp : w.cell? ⟨bp, op, none⟩ = some (.slice ap fs.length capp)) (hP : Pat w 0 B fs ap) (hF : Fat w 0 B ks (some ⟨b2, o2, none⟩)) (i : Nat) (hi : i < ks.len) (oi : Nat) (hoi : oi = o2 + i * 5) :
    ∃ ki ni pi ci kki, Fo.drop i ks = .cons ki ni pi ci kki (Fo.drop (i + 1) ks) ∧ ∀ (R : Nat → Prop) (ae : Option Addr) (ce : Nat) (vars : List (List Int)) (s : Nat) (c : Int) (W : World), Kp (fun b => b = br) w W → ((vars.length : Nat) : Int) = (vl : Int) + more k i → En W br R n ae vars → (∀ g, R g → g < W.heap.size) → RnAt W br bp op n s c → 3000 < f + s → s ≤ 3000 → vars.length ≤ 412 + s →
      Calls Tryz.prog 111 #[.pointer (some ⟨br, 0, none⟩), .pointer (some ⟨b2, oi, none⟩), .slice ae vars.length ce] W (SRes br bp op R n W (evX fs n f c ki ni pi ci kki vars s)) := by
  subst hoi
  obtain ⟨ki, ni, pi, ci, kki, ai, capi, hd, hRR, hkl, x0, x1, x2, x3, x4, hFk⟩ := Fat.node hF hi
  obtain ⟨b', o', e, hbB⟩ := hF.blk (by omega)
  cases e
  obtain ⟨v1, v2⟩ := treeB_at ks 0 i ht hd
  rw [Nat.zero_add] at v1 v2
  refine ⟨ki, ni, pi, ci, kki, hd, fun R ae ce vars s c W q hl hE hRb hR hf hs hvl => ?_⟩
  rw [← hl] at v1 v2
  exact hV R fi ki ni pi ci kki ai capi b2 (o2 + i * 5) ae ce vars s c W hf hs hfi v1 v2 hR (q.cell hp (by omega)) (hP.keepE q hBr hbw) ((show NodeAt w b2 (o2 + i * 5) ki ni pi ci kki.len ai capi from ⟨x0, x1, x2, x3, x4⟩).keepN q (by omega)) hbB.2 (hFk.keepE q hBr hbw) hkl hE hRb hvl

set_option maxRecDepth 100000 in
set_option maxHeartbeats 6400000 in
theorem sExprNum {fs : List Fn} {ap : Option Addr} {capp br bp op n B f : Nat} (hBr : B ≤ br) (hbp : bp < B) (hn1 : 1 ≤ n) (hn13 : n ≤ 13) (hV : PS fs ap capp br bp op n B f) (R : Nat → Prop) (fi : Nat) (nn p cc : Int) (ks : Fo) (a : Option Addr) (cap b off : Nat) (ae : Option Addr) (ce : Nat) (vars : List (List Int)) (s : Nat) (w : World)
    (hf : 3000 < f + 1 + s) (hs : s ≤ 3000) (h3 : ¬ s = 3000) (hfi : fi ≤ fs.length) (hn : nodeB fs (vars.length : Int) (fi : Int) 1 nn p cc ks.len = true) (ht : treeB fs (fi : Int) ks (vars.length : Int) 1 0 = true) (hR : RnAt w br bp op n s 0) (hp : w.cell? ⟨bp, op, none⟩ = some (.slice ap fs.length capp)) (hP : Pat w 0 B fs ap) (hN : NodeAt w b off 1 nn p cc ks.len a cap) (hb : b < B) (hF : Fat w 0 B ks a) (hkl : ks.len ≤ maxLen) (hE : En w br R n ae vars) (hRb : ∀ g, R g → g < w.heap.size) (hvl : vars.length ≤ 412 + s) :
    Calls Tryz.prog 111 #[.pointer (some ⟨br, 0, none⟩), .pointer (some ⟨b, off, none⟩), .slice ae vars.length ce] w (SRes br bp op R n w (nodE (sA n) fs (evE (sA n) fs f) 1 nn p cc ks vars (s + 1))) := by
  have h3b : ((s : Int) == 3000) = false := ne_beq (by omega)
  have hbw := cell_lt hR.c0
  obtain ⟨w1, hw1⟩ : ∃ w1, w.setCell ⟨br, 2, none⟩ (.int .i64 ((s : Int) + 1)) = w1 := ⟨_, rfl⟩
  have r1 : RnAt w1 br bp op n (s + 1) 0 := by rw [← hw1]; exact hR.step
  have q1 : Kp (fun b => b = br) w w1 := by rw [← hw1]; exact Kp.set (p := ⟨br, 2, none⟩) rfl
  have z1 : w1.heap.size = w.heap.size := by rw [← hw1]; simp
  have x2 := hR.c2
  have x3 := hR.c3
  have xf := hR.fz 2
  have E1 := hE.keep q1
  have P1 := hP.keepE q1 hBr hbw
  have F1 := hF.keepE q1 hBr hbw
  have hp1 := q1.cell hp (by omega)
  have hbw1 : br < w1.heap.size := by omega
  have hRb1 : ∀ g, R g → g < w1.heap.size := fun g hg => by have := hRb g hg; omega
  have HN1 := Lib.hid (hN.keepN q1 (by omega))
  obtain ⟨y0, y1, y2, y3, y4⟩ := hN.keepN q1 (by omega)
  clear hE hP hF hN hR
  obtain ⟨hn0, hn2⟩ := (node_kids hn (by omega)).2.1 rfl
  have x1 := r1.c1
  have HC := fun W => Lib.hid ((sConst nn n W (by omega)).mono fun e w h => freshN_of h (cstl_len nn n))
  have HEV : Hid (nodE (sA n) fs (evE (sA n) fs f) 1 nn p cc ks vars (s + 1) = ⟨cstl nn n, s + 1, 0⟩) := rfl
  clear ht hn E1 P1 F1

  go_enter Tryz.func111, Tryz.ntmps111
  go_wp2_with fail
  go_region_with (go_at_call 105; refine (HC _).out.mono ?_; rintro e w5 ⟨g, cap5, rfl, ho5, b5⟩)
  all_goals
    go_wp2_with fail
    go_ret
    rw [HEV.out]
    exact .fresh (w2 := w1.drew) (q1.more (Below.refl _ _).drew) (r1.next (Below.refl _ _).drew) b5 ho5 (cstl_len _ _) (cstl_numsE ⟨hn0, hn2⟩) (fun _ => rfl)

set_option maxRecDepth 100000 in
set_option maxHeartbeats 6400000 in
theorem sExprVar {fs : List Fn} {ap : Option Addr} {capp br bp op n B f : Nat} (hBr : B ≤ br) (hbp : bp < B) (hn1 : 1 ≤ n) (hn13 : n ≤ 13) (hV : PS fs ap capp br bp op n B f) (R : Nat → Prop) (fi : Nat) (nn p cc : Int) (ks : Fo) (a : Option Addr) (cap b off : Nat) (ae : Option Addr) (ce : Nat) (vars : List (List Int)) (s : Nat) (w : World)
    (hf : 3000 < f + 1 + s) (hs : s ≤ 3000) (h3 : ¬ s = 3000) (hfi : fi ≤ fs.length) (hn : nodeB fs (vars.length : Int) (fi : Int) 2 nn p cc ks.len = true) (ht : treeB fs (fi : Int) ks (vars.length : Int) 2 0 = true) (hR : RnAt w br bp op n s 0) (hp : w.cell? ⟨bp, op, none⟩ = some (.slice ap fs.length capp)) (hP : Pat w 0 B fs ap) (hN : NodeAt w b off 2 nn p cc ks.len a cap) (hb : b < B) (hF : Fat w 0 B ks a) (hkl : ks.len ≤ maxLen) (hE : En w br R n ae vars) (hRb : ∀ g, R g → g < w.heap.size) (hvl : vars.length ≤ 412 + s) :
    Calls Tryz.prog 111 #[.pointer (some ⟨br, 0, none⟩), .pointer (some ⟨b, off, none⟩), .slice ae vars.length ce] w (SRes br bp op R n w (nodE (sA n) fs (evE (sA n) fs f) 2 nn p cc ks vars (s + 1))) := by
  have h3b : ((s : Int) == 3000) = false := ne_beq (by omega)
  have hbw := cell_lt hR.c0
  obtain ⟨w1, hw1⟩ : ∃ w1, w.setCell ⟨br, 2, none⟩ (.int .i64 ((s : Int) + 1)) = w1 := ⟨_, rfl⟩
  have r1 : RnAt w1 br bp op n (s + 1) 0 := by rw [← hw1]; exact hR.step
  have q1 : Kp (fun b => b = br) w w1 := by rw [← hw1]; exact Kp.set (p := ⟨br, 2, none⟩) rfl
  have z1 : w1.heap.size = w.heap.size := by rw [← hw1]; simp
  have x2 := hR.c2
  have x3 := hR.c3
  have xf := hR.fz 2
  have E1 := hE.keep q1
  have P1 := hP.keepE q1 hBr hbw
  have F1 := hF.keepE q1 hBr hbw
  have hp1 := q1.cell hp (by omega)
  have hbw1 : br < w1.heap.size := by omega
  have hRb1 : ∀ g, R g → g < w1.heap.size := fun g hg => by have := hRb g hg; omega
  have HN1 := Lib.hid (hN.keepN q1 (by omega))
  obtain ⟨y0, y1, y2, y3, y4⟩ := hN.keepN q1 (by omega)
  clear hE hP hF hN hR
  obtain ⟨hn0, hn2⟩ := (node_kids hn (by omega)).2.2 rfl
  obtain ⟨j, rfl⟩ := Int.eq_ofNat_of_zero_le hn0
  have hj : j < vars.length := by omega
  have HEV : Hid (nodE (sA n) fs (evE (sA n) fs f) 2 (j : Int) p cc ks vars (s + 1) = ⟨vars.getD j ((sA n).cst 0), s + 1, 0⟩) := rfl
  obtain ⟨b7, o7, rfl, hbn7, hbw7, hall7⟩ := E1.rows.resolve_left (by intro e; rw [e] at hj; simp at hj)
  obtain ⟨ai, ci, hcell, hls, hRq⟩ := hall7 j hj
  have HLS := Lib.hid hls
  have HRQ := Lib.hid hRq
  have HE1 := Lib.hid E1
  clear ht hn E1 P1 F1 hall7 hls hRq

  go_enter Tryz.func111, Tryz.ntmps111
  go_wp2_with fail
  go_ret
  rw [HEV.out]
  exact .mk q1 r1 (HE1.out.len j hj) (HE1.out.nums j hj) HLS.out (fun q hq => .inl (HRQ.out q hq)) (fun _ => by rw [List.getD_eq_getElem?_getD, List.getD_eq_getElem?_getD, List.getElem?_eq_getElem hj]; rfl)

set_option maxRecDepth 100000 in
set_option maxHeartbeats 6400000 in
theorem sExprNeg {fs : List Fn} {ap : Option Addr} {capp br bp op n B f : Nat} (hBr : B ≤ br) (hbp : bp < B) (hn1 : 1 ≤ n) (hn13 : n ≤ 13) (hV : PS fs ap capp br bp op n B f) (R : Nat → Prop) (fi : Nat) (nn p cc : Int) (ks : Fo) (a : Option Addr) (cap b off : Nat) (ae : Option Addr) (ce : Nat) (vars : List (List Int)) (s : Nat) (w : World)
    (hf : 3000 < f + 1 + s) (hs : s ≤ 3000) (h3 : ¬ s = 3000) (hfi : fi ≤ fs.length) (hn : nodeB fs (vars.length : Int) (fi : Int) 7 nn p cc ks.len = true) (ht : treeB fs (fi : Int) ks (vars.length : Int) 7 0 = true) (hR : RnAt w br bp op n s 0) (hp : w.cell? ⟨bp, op, none⟩ = some (.slice ap fs.length capp)) (hP : Pat w 0 B fs ap) (hN : NodeAt w b off 7 nn p cc ks.len a cap) (hb : b < B) (hF : Fat w 0 B ks a) (hkl : ks.len ≤ maxLen) (hE : En w br R n ae vars) (hRb : ∀ g, R g → g < w.heap.size) (hvl : vars.length ≤ 412 + s) :
    Calls Tryz.prog 111 #[.pointer (some ⟨br, 0, none⟩), .pointer (some ⟨b, off, none⟩), .slice ae vars.length ce] w (SRes br bp op R n w (nodE (sA n) fs (evE (sA n) fs f) 7 nn p cc ks vars (s + 1))) := by
  have h3b : ((s : Int) == 3000) = false := ne_beq (by omega)
  have hbw := cell_lt hR.c0
  obtain ⟨w1, hw1⟩ : ∃ w1, w.setCell ⟨br, 2, none⟩ (.int .i64 ((s : Int) + 1)) = w1 := ⟨_, rfl⟩
  have r1 : RnAt w1 br bp op n (s + 1) 0 := by rw [← hw1]; exact hR.step
  have q1 : Kp (fun b => b = br) w w1 := by rw [← hw1]; exact Kp.set (p := ⟨br, 2, none⟩) rfl
  have z1 : w1.heap.size = w.heap.size := by rw [← hw1]; simp
  have x2 := hR.c2
  have x3 := hR.c3
  have xf := hR.fz 2
  have E1 := hE.keep q1
  have P1 := hP.keepE q1 hBr hbw
  have F1 := hF.keepE q1 hBr hbw
  have hp1 := q1.cell hp (by omega)
  have hbw1 : br < w1.heap.size := by omega
  have hRb1 : ∀ g, R g → g < w1.heap.size := fun g hg => by have := hRb g hg; omega
  have HN1 := Lib.hid (hN.keepN q1 (by omega))
  obtain ⟨y0, y1, y2, y3, y4⟩ := hN.keepN q1 (by omega)
  clear hE hP hF hN hR
  have hk1 : ks.len = 1 := by have := (node_kids hn (by omega)).1; have : kidsNo 7 = 1 := rfl; omega
  obtain ⟨b2, b2o, rfl, hbB2⟩ := F1.blk (by omega)
  obtain ⟨k0, n0, p0, c0, kk0, hd0, hK0⟩ := kidE hBr hbp hV hbw1 hfi ht hp1 P1 F1 0 (by omega) (b2o + 0) (by omega)
  have HEV : Hid (nodE (sA n) fs (evE (sA n) fs f) 7 nn p cc ks vars (s + 1) = oneE (evX fs n f 0 k0 n0 p0 c0 kk0 vars (s + 1)) (sA n).neg) := by show oneE (atE (sA n) (evE (sA n) fs f) ks 0 vars (s + 1)) (sA n).neg = _; rw [atE_eq hd0]; rfl
  generalize nodE (sA n) fs (evE (sA n) fs f) 7 nn p cc ks vars (s + 1) = R0 at HEV ⊢
  have HC := Lib.hid (hK0 R ae ce vars (s + 1) 0 w1 (Kp.refl _ _) (by show _ = _ + (0 : Int); omega) E1 hRb1 r1 (by omega) (by omega) (by omega))
  generalize evX fs n f 0 k0 n0 p0 c0 kk0 vars (s + 1) = X at HC HEV
  have hlt0 : 0 < ks.len := by omega
  clear ht hn E1 P1 F1 hK0 hk1

  go_enter Tryz.func111, Tryz.ntmps111
  go_wp2_with fail
  refine HC.out.mono ?_; rintro e w3 ⟨k3, r3, a3, cap3, v, rfl, hvn, hvm, hvs, hvx, hve⟩
  have HSC := Lib.hid (sScale n a3 cap3 v 1000002 w3 hvs.at_ hvn (by omega) hvm (by omega))
  go_wp2_with fail
  refine HSC.out.mono ?_; rintro e w5 ⟨g, cap5, rfl, ho5, b5⟩
  go_wp2_with fail
  go_ret
  rw [HEV.out]
  have hs0 : (oneE X (sA n).neg).s = X.s := by unfold oneE; split <;> rfl
  have hc0 : (oneE X (sA n).neg).c = X.c := by unfold oneE; split; (rename_i h; exact h.symm); rfl
  exact .fresh (q1.trans k3) (by rw [hs0, hc0]; exact r3) b5 ho5 (by rw [scll_len]; exact hvn) (scll_nums _ _) (fun h => by rw [hc0] at h; unfold oneE; rw [if_pos h, hve h]; rfl)

set_option maxRecDepth 100000 in
set_option maxHeartbeats 6400000 in
theorem sExprIf {fs : List Fn} {ap : Option Addr} {capp br bp op n B f : Nat} (hBr : B ≤ br) (hbp : bp < B) (hn1 : 1 ≤ n) (hn13 : n ≤ 13) (hV : PS fs ap capp br bp op n B f) (R : Nat → Prop) (fi : Nat) (nn p cc : Int) (ks : Fo) (a : Option Addr) (cap b off : Nat) (ae : Option Addr) (ce : Nat) (vars : List (List Int)) (s : Nat) (w : World)
    (hf : 3000 < f + 1 + s) (hs : s ≤ 3000) (h3 : ¬ s = 3000) (hfi : fi ≤ fs.length) (hn : nodeB fs (vars.length : Int) (fi : Int) 8 nn p cc ks.len = true) (ht : treeB fs (fi : Int) ks (vars.length : Int) 8 0 = true) (hR : RnAt w br bp op n s 0) (hp : w.cell? ⟨bp, op, none⟩ = some (.slice ap fs.length capp)) (hP : Pat w 0 B fs ap) (hN : NodeAt w b off 8 nn p cc ks.len a cap) (hb : b < B) (hF : Fat w 0 B ks a) (hkl : ks.len ≤ maxLen) (hE : En w br R n ae vars) (hRb : ∀ g, R g → g < w.heap.size) (hvl : vars.length ≤ 412 + s) :
    Calls Tryz.prog 111 #[.pointer (some ⟨br, 0, none⟩), .pointer (some ⟨b, off, none⟩), .slice ae vars.length ce] w (SRes br bp op R n w (nodE (sA n) fs (evE (sA n) fs f) 8 nn p cc ks vars (s + 1))) := by
  have h3b : ((s : Int) == 3000) = false := ne_beq (by omega)
  have hbw := cell_lt hR.c0
  obtain ⟨w1, hw1⟩ : ∃ w1, w.setCell ⟨br, 2, none⟩ (.int .i64 ((s : Int) + 1)) = w1 := ⟨_, rfl⟩
  have r1 : RnAt w1 br bp op n (s + 1) 0 := by rw [← hw1]; exact hR.step
  have q1 : Kp (fun b => b = br) w w1 := by rw [← hw1]; exact Kp.set (p := ⟨br, 2, none⟩) rfl
  have z1 : w1.heap.size = w.heap.size := by rw [← hw1]; simp
  have x2 := hR.c2
  have x3 := hR.c3
  have xf := hR.fz 2
  have E1 := hE.keep q1
  have P1 := hP.keepE q1 hBr hbw
  have F1 := hF.keepE q1 hBr hbw
  have hp1 := q1.cell hp (by omega)
  have hbw1 : br < w1.heap.size := by omega
  have hRb1 : ∀ g, R g → g < w1.heap.size := fun g hg => by have := hRb g hg; omega
  have HN1 := Lib.hid (hN.keepN q1 (by omega))
  obtain ⟨y0, y1, y2, y3, y4⟩ := hN.keepN q1 (by omega)
  clear hE hP hF hN hR
  have hk1 : ks.len = 3 := by have := (node_kids hn (by omega)).1; have : kidsNo 8 = 3 := rfl; omega
  obtain ⟨b2, b2o, rfl, hbB2⟩ := F1.blk (by omega)
  obtain ⟨k0, n0, p0, c0, kk0, hd0, hK0⟩ := kidE hBr hbp hV hbw1 hfi ht hp1 P1 F1 0 (by omega) (b2o + 0) (by omega)
  obtain ⟨k1, n1, p1, c1, kk1, hd1, hK1⟩ := kidE hBr hbp hV hbw1 hfi ht hp1 P1 F1 1 (by omega) (b2o + 5) (by omega)
  obtain ⟨k2, n2, p2, c2, kk2, hd2, hK2⟩ := kidE hBr hbp hV hbw1 hfi ht hp1 P1 F1 2 (by omega) (b2o + 10) (by omega)
  have hm8 : ∀ i, more 8 i = 0 := fun i => more_zero (by decide) i
  have HEV : Hid (nodE (sA n) fs (evE (sA n) fs f) 8 nn p cc ks vars (s + 1) = bindE (evX fs n f 0 k0 n0 p0 c0 kk0 vars (s + 1)) fun v s => if (sA n).zer v = true then evE (sA n) fs f k1 n1 p1 c1 kk1 vars s else evE (sA n) fs f k2 n2 p2 c2 kk2 vars s) := by
    show (bindE (atE (sA n) (evE (sA n) fs f) ks 0 vars (s + 1)) fun v s => if (sA n).zer v = true then atE (sA n) (evE (sA n) fs f) ks 1 vars s else atE (sA n) (evE (sA n) fs f) ks 2 vars s) = _
    rw [atE_eq hd0]
    congr 1
    funext v s
    rw [atE_eq hd1, atE_eq hd2]
  generalize nodE (sA n) fs (evE (sA n) fs f) 8 nn p cc ks vars (s + 1) = R0 at HEV ⊢
  have HC := Lib.hid (hK0 R ae ce vars (s + 1) 0 w1 (Kp.refl _ _) (by rw [hm8]; omega) E1 hRb1 r1 (by omega) (by omega) (by omega))
  have hst : s + 1 ≤ (evX fs n f 0 k0 n0 p0 c0 kk0 vars (s + 1)).s ∧ (evX fs n f 0 k0 n0 p0 c0 kk0 vars (s + 1)).s ≤ 3000 := evE_stp fs f (s + 1) (by omega) _ _ _ _ _ _ _ (Nat.le_refl _) (by omega)
  generalize evX fs n f 0 k0 n0 p0 c0 kk0 vars (s + 1) = X at HC HEV hst
  have HK1 := Lib.hid hK1
  have HK2 := Lib.hid hK2
  have HE1 := Lib.hid E1
  have HLN := Lib.hid hk1
  have g0 : (0 : Int) < (ks.len : Int) := by omega
  have g1 : (1 : Int) < (ks.len : Int) := by omega
  have g2 : (2 : Int) < (ks.len : Int) := by omega
  clear ht hn E1 P1 F1 hK0 hK1 hK2 hk1

  go_enter Tryz.func111, Tryz.ntmps111
  go_wp2_with fail
  refine HC.out.mono ?_; rintro e w3 ⟨k3, r3, a3, cap3, v, rfl, hvn, hvm, hvs, hvx, hve⟩
  obtain ⟨bv, ov, rfl, hbv, hcv⟩ := hvs.at_.resolve_left (by intro e; rw [e] at hvn; simp at hvn; omega)
  have hx := hcv 0 (by omega)
  rw [Nat.add_zero] at hx
  replace y4 := k3.cell y4 (by omega)
  have z3 := k3.size
  have hn0 : (0 : Int) < (n : Int) := by omega
  have HC1 := Lib.hid (HK1.out R ae ce vars X.s X.c w3 k3 (by rw [hm8]; omega) (HE1.out.keep k3) (fun g hg => by have := hRb1 g hg; omega) r3 (by omega) hst.2 (by omega))
  have HC2 := Lib.hid (HK2.out R ae ce vars X.s X.c w3 k3 (by rw [hm8]; omega) (HE1.out.keep k3) (fun g hg => by have := hRb1 g hg; omega) r3 (by omega) hst.2 (by omega))
  have HVE := Lib.hid hve
  clear hcv HC hve hvs
  by_cases hz : v.getD 0 0 = 0
  · have hzb : (v.getD 0 0 == 0) = true := by rw [hz]; rfl
    have HRS := Lib.hid (bindX_eq (fs := fs) (n := n) (f := f) (k := k1) (nn := n1) (p := p1) (cc := c1) (kk := kk1) (vars := vars) HEV.out (fun h0 => if_pos (by rw [← HVE.out h0]; exact hzb)))
    generalize v.getD 0 0 = x0 at *
    go_wp2_with fail
    refine HC1.out.mono ?_; intro e w5 h5
    obtain ⟨k9, h9, a9, cap9, v9, rfl, h9'⟩ := h5.up (R := R) (w := w) (r' := R0) (q1.trans k3) (fun q hq => .inl hq) HRS.out.1 HRS.out.2.1 HRS.out.2.2
    go_wp2_with fail
    go_ret
    exact ⟨k9, h9, a9, cap9, v9, rfl, h9'⟩
  · have hzb : (v.getD 0 0 == 0) = false := by simpa using hz
    have HRS := Lib.hid (bindX_eq (fs := fs) (n := n) (f := f) (k := k2) (nn := n2) (p := p2) (cc := c2) (kk := kk2) (vars := vars) HEV.out (fun h0 => if_neg (by rw [← HVE.out h0]; show ¬ (v.getD 0 0 == 0) = true; rw [hzb]; decide)))
    generalize v.getD 0 0 = x0 at *
    go_wp2_with fail
    refine HC2.out.mono ?_; intro e w5 h5
    obtain ⟨k9, h9, a9, cap9, v9, rfl, h9'⟩ := h5.up (R := R) (w := w) (r' := R0) (q1.trans k3) (fun q hq => .inl hq) HRS.out.1 HRS.out.2.1 HRS.out.2.2
    go_wp2_with fail
    go_ret
    exact ⟨k9, h9, a9, cap9, v9, rfl, h9'⟩

set_option maxRecDepth 100000 in
set_option maxHeartbeats 6400000 in
theorem sExprOp3 {fs : List Fn} {ap : Option Addr} {capp br bp op n B f : Nat} (hBr : B ≤ br) (hbp : bp < B) (hn1 : 1 ≤ n) (hn13 : n ≤ 13) (hV : PS fs ap capp br bp op n B f) (R : Nat → Prop) (fi : Nat) (nn p cc : Int) (ks : Fo) (a : Option Addr) (cap b off : Nat) (ae : Option Addr) (ce : Nat) (vars : List (List Int)) (s : Nat) (w : World)
    (hf : 3000 < f + 1 + s) (hs : s ≤ 3000) (h3 : ¬ s = 3000) (hfi : fi ≤ fs.length) (hn : nodeB fs (vars.length : Int) (fi : Int) 3 nn p cc ks.len = true) (ht : treeB fs (fi : Int) ks (vars.length : Int) 3 0 = true) (hR : RnAt w br bp op n s 0) (hp : w.cell? ⟨bp, op, none⟩ = some (.slice ap fs.length capp)) (hP : Pat w 0 B fs ap) (hN : NodeAt w b off 3 nn p cc ks.len a cap) (hb : b < B) (hF : Fat w 0 B ks a) (hkl : ks.len ≤ maxLen) (hE : En w br R n ae vars) (hRb : ∀ g, R g → g < w.heap.size) (hvl : vars.length ≤ 412 + s) :
    Calls Tryz.prog 111 #[.pointer (some ⟨br, 0, none⟩), .pointer (some ⟨b, off, none⟩), .slice ae vars.length ce] w (SRes br bp op R n w (nodE (sA n) fs (evE (sA n) fs f) 3 nn p cc ks vars (s + 1))) := by
  have h3b : ((s : Int) == 3000) = false := ne_beq (by omega)
  have hbw := cell_lt hR.c0
  obtain ⟨w1, hw1⟩ : ∃ w1, w.setCell ⟨br, 2, none⟩ (.int .i64 ((s : Int) + 1)) = w1 := ⟨_, rfl⟩
  have r1 : RnAt w1 br bp op n (s + 1) 0 := by rw [← hw1]; exact hR.step
  have q1 : Kp (fun b => b = br) w w1 := by rw [← hw1]; exact Kp.set (p := ⟨br, 2, none⟩) rfl
  have z1 : w1.heap.size = w.heap.size := by rw [← hw1]; simp
  have x2 := hR.c2
  have x3 := hR.c3
  have xf := hR.fz 2
  have E1 := hE.keep q1
  have P1 := hP.keepE q1 hBr hbw
  have F1 := hF.keepE q1 hBr hbw
  have hp1 := q1.cell hp (by omega)
  have hbw1 : br < w1.heap.size := by omega
  have hRb1 : ∀ g, R g → g < w1.heap.size := fun g hg => by have := hRb g hg; omega
  have HN1 := Lib.hid (hN.keepN q1 (by omega))
  obtain ⟨y0, y1, y2, y3, y4⟩ := hN.keepN q1 (by omega)
  clear hE hP hF hN hR
  have hk1 : ks.len = 2 := by have := (node_kids hn (by omega)).1; have : kidsNo 3 = 2 := rfl; omega
  obtain ⟨b2, b2o, rfl, hbB2⟩ := F1.blk (by omega)
  obtain ⟨k0, n0, p0, c0, kk0, hd0, hK0⟩ := kidE hBr hbp hV hbw1 hfi ht hp1 P1 F1 0 (by omega) (b2o + 0) (by omega)
  obtain ⟨k1, n1, p1, c1, kk1, hd1, hK1⟩ := kidE hBr hbp hV hbw1 hfi ht hp1 P1 F1 1 (by omega) (b2o + 5) (by omega)
  have hm8 : ∀ i, more 3 i = 0 := fun i => more_zero (by decide) i
  have HEV : Hid (nodE (sA n) fs (evE (sA n) fs f) 3 nn p cc ks vars (s + 1) = bindL (sA n) (lisE (sA n) (evE (sA n) fs f) ks vars (s + 1) ks.len) fun l s => opE (sA n) 3 l s) := rfl
  generalize nodE (sA n) fs (evE (sA n) fs f) 3 nn p cc ks vars (s + 1) = R0 at HEV ⊢
  have HC := Lib.hid (hK0 R ae ce vars (s + 1) 0 w1 (Kp.refl _ _) (by rw [hm8]; omega) E1 hRb1 r1 (by omega) (by omega) (by omega))
  have hst : s + 1 ≤ (evX fs n f 0 k0 n0 p0 c0 kk0 vars (s + 1)).s ∧ (evX fs n f 0 k0 n0 p0 c0 kk0 vars (s + 1)).s ≤ 3000 := evE_stp fs f (s + 1) (by omega) _ _ _ _ _ _ _ (Nat.le_refl _) (by omega)
  have HOP := Lib.hid (op_eq hk1 hd0 hd1 rfl rfl HEV.out)
  generalize evX fs n f 0 k0 n0 p0 c0 kk0 vars (s + 1) = X at HC hst HOP
  have HK1 := Lib.hid hK1
  have HE1 := Lib.hid E1
  have g0 : (0 : Int) < (ks.len : Int) := by omega
  have g1 : (1 : Int) < (ks.len : Int) := by omega
  clear ht hn E1 P1 F1 hK0 hK1 hk1

  go_enter Tryz.func111, Tryz.ntmps111
  go_wp2_with fail
  refine HC.out.mono ?_; rintro e w3 ⟨k3, r3, a3, cap3, v, rfl, hvn, hvm, hvs, hvx, hve⟩
  have y43 := k3.cell y4 (by omega)
  have z3 := k3.size
  have HC1 := Lib.hid (HK1.out R ae ce vars X.s X.c w3 k3 (by rw [hm8]; omega) (HE1.out.keep k3) (fun g hg => by have := hRb1 g hg; omega) r3 (by omega) hst.2 (by omega))
  generalize evX fs n f X.c k1 n1 p1 c1 kk1 vars X.s = Y at HC1 HOP
  have HVE := Lib.hid hve
  have HVS := Lib.hid hvs
  clear HC hve hvs HK1 y4
  go_wp2_with fail
  refine HC1.out.mono ?_; rintro e w4 ⟨k4, r4, a4, cap4, u, rfl, hun, hum, hus, hux, hue⟩
  have y04 := k4.cell (k3.cell y0 (by omega)) (by omega)
  have q4 := (q1.trans k3).trans k4
  have hv4 := (HVS.out.keep k4).at_
  have hu4 := hus.at_
  have HUE := Lib.hid hue
  have HVN := Lib.hid hvn
  have HUN := Lib.hid hun
  clear HC1 HVS hus hue y43
  have HSC := Lib.hid (sAddN n a3 a4 cap3 cap4 v u w4 hv4 hu4 hvm hum HVN HUN (by omega))
  clear hv4 hu4 hvn hun
  go_wp2_with fail
  refine HSC.out.mono ?_; rintro e w5 ⟨g, cap5, rfl, ho5, b5⟩
  go_wp2_with fail
  go_ret
  by_cases hc : Y.c = 0
  · obtain ⟨hx, hR0⟩ := HOP.out.2 hc
    exact .fresh q4 (by rw [hR0]; show RnAt _ _ _ _ _ Y.s 0; rw [← hc]; exact r4) b5 ho5 ((addl_len _ _).trans HVN.out) (addl_numsE _ _) (fun _ => by rw [hR0, HVE.out hx, HUE.out hc]; rfl)
  · obtain ⟨h1, h2⟩ := HOP.out.1 hc
    exact .fresh q4 (by rw [h1, h2]; exact r4) b5 ho5 ((addl_len _ _).trans HVN.out) (addl_numsE _ _) (fun h => absurd (h2 ▸ h) hc)

set_option maxRecDepth 100000 in
set_option maxHeartbeats 6400000 in
theorem sExprOp4 {fs : List Fn} {ap : Option Addr} {capp br bp op n B f : Nat} (hBr : B ≤ br) (hbp : bp < B) (hn1 : 1 ≤ n) (hn13 : n ≤ 13) (hV : PS fs ap capp br bp op n B f) (R : Nat → Prop) (fi : Nat) (nn p cc : Int) (ks : Fo) (a : Option Addr) (cap b off : Nat) (ae : Option Addr) (ce : Nat) (vars : List (List Int)) (s : Nat) (w : World)
    (hf : 3000 < f + 1 + s) (hs : s ≤ 3000) (h3 : ¬ s = 3000) (hfi : fi ≤ fs.length) (hn : nodeB fs (vars.length : Int) (fi : Int) 4 nn p cc ks.len = true) (ht : treeB fs (fi : Int) ks (vars.length : Int) 4 0 = true) (hR : RnAt w br bp op n s 0) (hp : w.cell? ⟨bp, op, none⟩ = some (.slice ap fs.length capp)) (hP : Pat w 0 B fs ap) (hN : NodeAt w b off 4 nn p cc ks.len a cap) (hb : b < B) (hF : Fat w 0 B ks a) (hkl : ks.len ≤ maxLen) (hE : En w br R n ae vars) (hRb : ∀ g, R g → g < w.heap.size) (hvl : vars.length ≤ 412 + s) :
    Calls Tryz.prog 111 #[.pointer (some ⟨br, 0, none⟩), .pointer (some ⟨b, off, none⟩), .slice ae vars.length ce] w (SRes br bp op R n w (nodE (sA n) fs (evE (sA n) fs f) 4 nn p cc ks vars (s + 1))) := by
  have h3b : ((s : Int) == 3000) = false := ne_beq (by omega)
  have hbw := cell_lt hR.c0
  obtain ⟨w1, hw1⟩ : ∃ w1, w.setCell ⟨br, 2, none⟩ (.int .i64 ((s : Int) + 1)) = w1 := ⟨_, rfl⟩
  have r1 : RnAt w1 br bp op n (s + 1) 0 := by rw [← hw1]; exact hR.step
  have q1 : Kp (fun b => b = br) w w1 := by rw [← hw1]; exact Kp.set (p := ⟨br, 2, none⟩) rfl
  have z1 : w1.heap.size = w.heap.size := by rw [← hw1]; simp
  have x2 := hR.c2
  have x3 := hR.c3
  have xf := hR.fz 2
  have E1 := hE.keep q1
  have P1 := hP.keepE q1 hBr hbw
  have F1 := hF.keepE q1 hBr hbw
  have hp1 := q1.cell hp (by omega)
  have hbw1 : br < w1.heap.size := by omega
  have hRb1 : ∀ g, R g → g < w1.heap.size := fun g hg => by have := hRb g hg; omega
  have HN1 := Lib.hid (hN.keepN q1 (by omega))
  obtain ⟨y0, y1, y2, y3, y4⟩ := hN.keepN q1 (by omega)
  clear hE hP hF hN hR
  have hk1 : ks.len = 2 := by have := (node_kids hn (by omega)).1; have : kidsNo 4 = 2 := rfl; omega
  obtain ⟨b2, b2o, rfl, hbB2⟩ := F1.blk (by omega)
  obtain ⟨k0, n0, p0, c0, kk0, hd0, hK0⟩ := kidE hBr hbp hV hbw1 hfi ht hp1 P1 F1 0 (by omega) (b2o + 0) (by omega)
  obtain ⟨k1, n1, p1, c1, kk1, hd1, hK1⟩ := kidE hBr hbp hV hbw1 hfi ht hp1 P1 F1 1 (by omega) (b2o + 5) (by omega)
  have hm8 : ∀ i, more 4 i = 0 := fun i => more_zero (by decide) i
  have HEV : Hid (nodE (sA n) fs (evE (sA n) fs f) 4 nn p cc ks vars (s + 1) = bindL (sA n) (lisE (sA n) (evE (sA n) fs f) ks vars (s + 1) ks.len) fun l s => opE (sA n) 4 l s) := rfl
  generalize nodE (sA n) fs (evE (sA n) fs f) 4 nn p cc ks vars (s + 1) = R0 at HEV ⊢
  have HC := Lib.hid (hK0 R ae ce vars (s + 1) 0 w1 (Kp.refl _ _) (by rw [hm8]; omega) E1 hRb1 r1 (by omega) (by omega) (by omega))
  have hst : s + 1 ≤ (evX fs n f 0 k0 n0 p0 c0 kk0 vars (s + 1)).s ∧ (evX fs n f 0 k0 n0 p0 c0 kk0 vars (s + 1)).s ≤ 3000 := evE_stp fs f (s + 1) (by omega) _ _ _ _ _ _ _ (Nat.le_refl _) (by omega)
  have HOP := Lib.hid (op_eq hk1 hd0 hd1 rfl rfl HEV.out)
  generalize evX fs n f 0 k0 n0 p0 c0 kk0 vars (s + 1) = X at HC hst HOP
  have HK1 := Lib.hid hK1
  have HE1 := Lib.hid E1
  have g0 : (0 : Int) < (ks.len : Int) := by omega
  have g1 : (1 : Int) < (ks.len : Int) := by omega
  clear ht hn E1 P1 F1 hK0 hK1 hk1

  go_enter Tryz.func111, Tryz.ntmps111
  go_wp2_with fail
  refine HC.out.mono ?_; rintro e w3 ⟨k3, r3, a3, cap3, v, rfl, hvn, hvm, hvs, hvx, hve⟩
  have y43 := k3.cell y4 (by omega)
  have z3 := k3.size
  have HC1 := Lib.hid (HK1.out R ae ce vars X.s X.c w3 k3 (by rw [hm8]; omega) (HE1.out.keep k3) (fun g hg => by have := hRb1 g hg; omega) r3 (by omega) hst.2 (by omega))
  generalize evX fs n f X.c k1 n1 p1 c1 kk1 vars X.s = Y at HC1 HOP
  have HVE := Lib.hid hve
  have HVS := Lib.hid hvs
  clear HC hve hvs HK1 y4
  go_wp2_with fail
  refine HC1.out.mono ?_; rintro e w4 ⟨k4, r4, a4, cap4, u, rfl, hun, hum, hus, hux, hue⟩
  have y04 := k4.cell (k3.cell y0 (by omega)) (by omega)
  have q4 := (q1.trans k3).trans k4
  have hv4 := (HVS.out.keep k4).at_
  have hu4 := hus.at_
  have HUE := Lib.hid hue
  have HVN := Lib.hid hvn
  have HUN := Lib.hid hun
  clear HC1 HVS hus hue y43
  have HSC := Lib.hid (sSubE n a3 a4 cap3 cap4 v u w4 hv4 hu4 hvm hum hvn hun (by omega))
  clear hv4 hu4 hvn hun
  go_wp2_with fail
  refine HSC.out.mono ?_; rintro e w5 ⟨g, cap5, rfl, ho5, b5⟩
  go_wp2_with fail
  go_ret
  by_cases hc : Y.c = 0
  · obtain ⟨hx, hR0⟩ := HOP.out.2 hc
    exact .fresh q4 (by rw [hR0]; show RnAt _ _ _ _ _ Y.s 0; rw [← hc]; exact r4) b5 ho5 ((addl_len _ _).trans HVN.out) (addl_numsE _ _) (fun _ => by rw [hR0, HVE.out hx, HUE.out hc]; rfl)
  · obtain ⟨h1, h2⟩ := HOP.out.1 hc
    exact .fresh q4 (by rw [h1, h2]; exact r4) b5 ho5 ((addl_len _ _).trans HVN.out) (addl_numsE _ _) (fun h => absurd (h2 ▸ h) hc)

set_option maxRecDepth 100000 in
set_option maxHeartbeats 6400000 in
theorem sExprOp5 {fs : List Fn} {ap : Option Addr} {capp br bp op n B f : Nat} (hBr : B ≤ br) (hbp : bp < B) (hn1 : 1 ≤ n) (hn13 : n ≤ 13) (hV : PS fs ap capp br bp op n B f) (R : Nat → Prop) (fi : Nat) (nn p cc : Int) (ks : Fo) (a : Option Addr) (cap b off : Nat) (ae : Option Addr) (ce : Nat) (vars : List (List Int)) (s : Nat) (w : World)
    (hf : 3000 < f + 1 + s) (hs : s ≤ 3000) (h3 : ¬ s = 3000) (hfi : fi ≤ fs.length) (hn : nodeB fs (vars.length : Int) (fi : Int) 5 nn p cc ks.len = true) (ht : treeB fs (fi : Int) ks (vars.length : Int) 5 0 = true) (hR : RnAt w br bp op n s 0) (hp : w.cell? ⟨bp, op, none⟩ = some (.slice ap fs.length capp)) (hP : Pat w 0 B fs ap) (hN : NodeAt w b off 5 nn p cc ks.len a cap) (hb : b < B) (hF : Fat w 0 B ks a) (hkl : ks.len ≤ maxLen) (hE : En w br R n ae vars) (hRb : ∀ g, R g → g < w.heap.size) (hvl : vars.length ≤ 412 + s) :
    Calls Tryz.prog 111 #[.pointer (some ⟨br, 0, none⟩), .pointer (some ⟨b, off, none⟩), .slice ae vars.length ce] w (SRes br bp op R n w (nodE (sA n) fs (evE (sA n) fs f) 5 nn p cc ks vars (s + 1))) := by
  have h3b : ((s : Int) == 3000) = false := ne_beq (by omega)
  have hbw := cell_lt hR.c0
  obtain ⟨w1, hw1⟩ : ∃ w1, w.setCell ⟨br, 2, none⟩ (.int .i64 ((s : Int) + 1)) = w1 := ⟨_, rfl⟩
  have r1 : RnAt w1 br bp op n (s + 1) 0 := by rw [← hw1]; exact hR.step
  have q1 : Kp (fun b => b = br) w w1 := by rw [← hw1]; exact Kp.set (p := ⟨br, 2, none⟩) rfl
  have z1 : w1.heap.size = w.heap.size := by rw [← hw1]; simp
  have x2 := hR.c2
  have x3 := hR.c3
  have xf := hR.fz 2
  have E1 := hE.keep q1
  have P1 := hP.keepE q1 hBr hbw
  have F1 := hF.keepE q1 hBr hbw
  have hp1 := q1.cell hp (by omega)
  have hbw1 : br < w1.heap.size := by omega
  have hRb1 : ∀ g, R g → g < w1.heap.size := fun g hg => by have := hRb g hg; omega
  have HN1 := Lib.hid (hN.keepN q1 (by omega))
  obtain ⟨y0, y1, y2, y3, y4⟩ := hN.keepN q1 (by omega)
  clear hE hP hF hN hR
  have hk1 : ks.len = 2 := by have := (node_kids hn (by omega)).1; have : kidsNo 5 = 2 := rfl; omega
  obtain ⟨b2, b2o, rfl, hbB2⟩ := F1.blk (by omega)
  obtain ⟨k0, n0, p0, c0, kk0, hd0, hK0⟩ := kidE hBr hbp hV hbw1 hfi ht hp1 P1 F1 0 (by omega) (b2o + 0) (by omega)
  obtain ⟨k1, n1, p1, c1, kk1, hd1, hK1⟩ := kidE hBr hbp hV hbw1 hfi ht hp1 P1 F1 1 (by omega) (b2o + 5) (by omega)
  have hm8 : ∀ i, more 5 i = 0 := fun i => more_zero (by decide) i
  have HEV : Hid (nodE (sA n) fs (evE (sA n) fs f) 5 nn p cc ks vars (s + 1) = bindL (sA n) (lisE (sA n) (evE (sA n) fs f) ks vars (s + 1) ks.len) fun l s => opE (sA n) 5 l s) := rfl
  generalize nodE (sA n) fs (evE (sA n) fs f) 5 nn p cc ks vars (s + 1) = R0 at HEV ⊢
  have HC := Lib.hid (hK0 R ae ce vars (s + 1) 0 w1 (Kp.refl _ _) (by rw [hm8]; omega) E1 hRb1 r1 (by omega) (by omega) (by omega))
  have hst : s + 1 ≤ (evX fs n f 0 k0 n0 p0 c0 kk0 vars (s + 1)).s ∧ (evX fs n f 0 k0 n0 p0 c0 kk0 vars (s + 1)).s ≤ 3000 := evE_stp fs f (s + 1) (by omega) _ _ _ _ _ _ _ (Nat.le_refl _) (by omega)
  have HOP := Lib.hid (op_eq hk1 hd0 hd1 rfl rfl HEV.out)
  generalize evX fs n f 0 k0 n0 p0 c0 kk0 vars (s + 1) = X at HC hst HOP
  have HK1 := Lib.hid hK1
  have HE1 := Lib.hid E1
  have g0 : (0 : Int) < (ks.len : Int) := by omega
  have g1 : (1 : Int) < (ks.len : Int) := by omega
  clear ht hn E1 P1 F1 hK0 hK1 hk1

  go_enter Tryz.func111, Tryz.ntmps111
  go_wp2_with fail
  refine HC.out.mono ?_; rintro e w3 ⟨k3, r3, a3, cap3, v, rfl, hvn, hvm, hvs, hvx, hve⟩
  have y43 := k3.cell y4 (by omega)
  have z3 := k3.size
  have HC1 := Lib.hid (HK1.out R ae ce vars X.s X.c w3 k3 (by rw [hm8]; omega) (HE1.out.keep k3) (fun g hg => by have := hRb1 g hg; omega) r3 (by omega) hst.2 (by omega))
  generalize evX fs n f X.c k1 n1 p1 c1 kk1 vars X.s = Y at HC1 HOP
  have HVE := Lib.hid hve
  have HVS := Lib.hid hvs
  clear HC hve hvs HK1 y4
  go_wp2_with fail
  refine HC1.out.mono ?_; rintro e w4 ⟨k4, r4, a4, cap4, u, rfl, hun, hum, hus, hux, hue⟩
  have y04 := k4.cell (k3.cell y0 (by omega)) (by omega)
  have q4 := (q1.trans k3).trans k4
  have hv4 := (HVS.out.keep k4).at_
  have hu4 := hus.at_
  have HUE := Lib.hid hue
  have HVN := Lib.hid hvn
  have HUN := Lib.hid hun
  clear HC1 HVS hus hue y43
  have HSC : Hid (Calls Tryz.prog 132 #[.slice a3 n cap3, .slice a4 n cap4] w4 (FreshN w4 n (mull v u))) := by
    have h := sMul a3 a4 cap3 cap4 v u w4 hv4 hu4 hvm.rng hum.rng (hun.trans hvn.symm) (by omega)
    rw [hvn, hun] at h
    exact h.mono fun e w h => freshN_of h ((mull_len _ _).trans hvn)
  clear hv4 hu4 hvn hun
  go_wp2_with fail
  refine HSC.out.mono ?_; rintro e w5 ⟨g, cap5, rfl, ho5, b5⟩
  go_wp2_with fail
  go_ret
  by_cases hc : Y.c = 0
  · obtain ⟨hx, hR0⟩ := HOP.out.2 hc
    exact .fresh q4 (by rw [hR0]; show RnAt _ _ _ _ _ Y.s 0; rw [← hc]; exact r4) b5 ho5 ((mull_len _ _).trans HVN.out) (mull_nms _ _) (fun _ => by rw [hR0, HVE.out hx, HUE.out hc]; rfl)
  · obtain ⟨h1, h2⟩ := HOP.out.1 hc
    exact .fresh q4 (by rw [h1, h2]; exact r4) b5 ho5 ((mull_len _ _).trans HVN.out) (mull_nms _ _) (fun h => absurd (h2 ▸ h) hc)

set_option maxRecDepth 100000 in
set_option maxHeartbeats 6400000 in
theorem sExprOp6 {fs : List Fn} {ap : Option Addr} {capp br bp op n B f : Nat} (hBr : B ≤ br) (hbp : bp < B) (hn1 : 1 ≤ n) (hn13 : n ≤ 13) (hV : PS fs ap capp br bp op n B f) (R : Nat → Prop) (fi : Nat) (nn p cc : Int) (ks : Fo) (a : Option Addr) (cap b off : Nat) (ae : Option Addr) (ce : Nat) (vars : List (List Int)) (s : Nat) (w : World)
    (hf : 3000 < f + 1 + s) (hs : s ≤ 3000) (h3 : ¬ s = 3000) (hfi : fi ≤ fs.length) (hn : nodeB fs (vars.length : Int) (fi : Int) 6 nn p cc ks.len = true) (ht : treeB fs (fi : Int) ks (vars.length : Int) 6 0 = true) (hR : RnAt w br bp op n s 0) (hp : w.cell? ⟨bp, op, none⟩ = some (.slice ap fs.length capp)) (hP : Pat w 0 B fs ap) (hN : NodeAt w b off 6 nn p cc ks.len a cap) (hb : b < B) (hF : Fat w 0 B ks a) (hkl : ks.len ≤ maxLen) (hE : En w br R n ae vars) (hRb : ∀ g, R g → g < w.heap.size) (hvl : vars.length ≤ 412 + s) :
    Calls Tryz.prog 111 #[.pointer (some ⟨br, 0, none⟩), .pointer (some ⟨b, off, none⟩), .slice ae vars.length ce] w (SRes br bp op R n w (nodE (sA n) fs (evE (sA n) fs f) 6 nn p cc ks vars (s + 1))) := by
  have h3b : ((s : Int) == 3000) = false := ne_beq (by omega)
  have hbw := cell_lt hR.c0
  obtain ⟨w1, hw1⟩ : ∃ w1, w.setCell ⟨br, 2, none⟩ (.int .i64 ((s : Int) + 1)) = w1 := ⟨_, rfl⟩
  have r1 : RnAt w1 br bp op n (s + 1) 0 := by rw [← hw1]; exact hR.step
  have q1 : Kp (fun b => b = br) w w1 := by rw [← hw1]; exact Kp.set (p := ⟨br, 2, none⟩) rfl
  have z1 : w1.heap.size = w.heap.size := by rw [← hw1]; simp
  have x2 := hR.c2
  have x3 := hR.c3
  have xf := hR.fz 2
  have E1 := hE.keep q1
  have P1 := hP.keepE q1 hBr hbw
  have F1 := hF.keepE q1 hBr hbw
  have hp1 := q1.cell hp (by omega)
  have hbw1 : br < w1.heap.size := by omega
  have hRb1 : ∀ g, R g → g < w1.heap.size := fun g hg => by have := hRb g hg; omega
  have HN1 := Lib.hid (hN.keepN q1 (by omega))
  obtain ⟨y0, y1, y2, y3, y4⟩ := hN.keepN q1 (by omega)
  clear hE hP hF hN hR
  have hk1 : ks.len = 2 := by have := (node_kids hn (by omega)).1; have : kidsNo 6 = 2 := rfl; omega
  obtain ⟨b2, b2o, rfl, hbB2⟩ := F1.blk (by omega)
  obtain ⟨k0, n0, p0, c0, kk0, hd0, hK0⟩ := kidE hBr hbp hV hbw1 hfi ht hp1 P1 F1 0 (by omega) (b2o + 0) (by omega)
  obtain ⟨k1, n1, p1, c1, kk1, hd1, hK1⟩ := kidE hBr hbp hV hbw1 hfi ht hp1 P1 F1 1 (by omega) (b2o + 5) (by omega)
  have hm8 : ∀ i, more 6 i = 0 := fun i => more_zero (by decide) i
  have HEV : Hid (nodE (sA n) fs (evE (sA n) fs f) 6 nn p cc ks vars (s + 1) = bindL (sA n) (lisE (sA n) (evE (sA n) fs f) ks vars (s + 1) ks.len) fun l s => opE (sA n) 6 l s) := rfl
  generalize nodE (sA n) fs (evE (sA n) fs f) 6 nn p cc ks vars (s + 1) = R0 at HEV ⊢
  have HC := Lib.hid (hK0 R ae ce vars (s + 1) 0 w1 (Kp.refl _ _) (by rw [hm8]; omega) E1 hRb1 r1 (by omega) (by omega) (by omega))
  have hst : s + 1 ≤ (evX fs n f 0 k0 n0 p0 c0 kk0 vars (s + 1)).s ∧ (evX fs n f 0 k0 n0 p0 c0 kk0 vars (s + 1)).s ≤ 3000 := evE_stp fs f (s + 1) (by omega) _ _ _ _ _ _ _ (Nat.le_refl _) (by omega)
  have HOP := Lib.hid (op_eq hk1 hd0 hd1 rfl rfl HEV.out)
  generalize evX fs n f 0 k0 n0 p0 c0 kk0 vars (s + 1) = X at HC hst HOP
  have HK1 := Lib.hid hK1
  have HE1 := Lib.hid E1
  have g0 : (0 : Int) < (ks.len : Int) := by omega
  have g1 : (1 : Int) < (ks.len : Int) := by omega
  clear ht hn E1 P1 F1 hK0 hK1 hk1

  go_enter Tryz.func111, Tryz.ntmps111
  go_wp2_with fail
  refine HC.out.mono ?_; rintro e w3 ⟨k3, r3, a3, cap3, v, rfl, hvn, hvm, hvs, hvx, hve⟩
  have y43 := k3.cell y4 (by omega)
  have z3 := k3.size
  have HC1 := Lib.hid (HK1.out R ae ce vars X.s X.c w3 k3 (by rw [hm8]; omega) (HE1.out.keep k3) (fun g hg => by have := hRb1 g hg; omega) r3 (by omega) hst.2 (by omega))
  generalize evX fs n f X.c k1 n1 p1 c1 kk1 vars X.s = Y at HC1 HOP
  have HVE := Lib.hid hve
  have HVS := Lib.hid hvs
  clear HC hve hvs HK1 y4
  go_wp2_with fail
  refine HC1.out.mono ?_; rintro e w4 ⟨k4, r4, a4, cap4, u, rfl, hun, hum, hus, hux, hue⟩
  have y04 := k4.cell (k3.cell y0 (by omega)) (by omega)
  have q4 := (q1.trans k3).trans k4
  have hv4 := (HVS.out.keep k4).at_
  have hu4 := hus.at_
  have HUE := Lib.hid hue
  have HVN := Lib.hid hvn
  have HUN := Lib.hid hun
  clear HC1 HVS hus hue y43
  have x3 := r4.c3
  obtain ⟨bv, ov, rfl, hbv, hcv⟩ := hu4.resolve_left (by intro e; rw [e] at hun; simp at hun; omega)
  have hx := hcv 0 (by omega)
  rw [Nat.add_zero] at hx
  have hn0 : (0 : Int) < (n : Int) := by omega
  have HF6 := Lib.hid (sFail br bp op R n Y.s Y.c 6 w4 r4 hn13 (by decide))
  have HSC : Hid (Calls Tryz.prog 133 #[.slice a3 n cap3, .slice (some ⟨bv, ov, none⟩) n cap4] w4 (FreshN w4 n (divl v u))) := by
    have h := sDiv a3 (some ⟨bv, ov, none⟩) cap3 cap4 v u w4 hv4 hu4 hvm hum (hun.trans hvn.symm) (by omega) (by omega)
    rw [hvn, hun] at h
    exact h.mono fun e w h => freshN_of h ((divl_len _ _).trans hvn)
  have HZ : Hid (Y.c = 0 → (sA n).zer Y.v = (u.getD 0 0 == 0)) := by show _ → _; intro h; rw [← HUE.out h]; rfl
  clear hv4 hu4 hcv hvn hun
  by_cases hc : Y.c = 0
  · have hcb : (Y.c != 0) = false := by rw [hc]; rfl
    obtain ⟨hxc, hR0⟩ := HOP.out.2 hc
    have HR0 := Lib.hid hR0
    have HYC := Lib.hid hc
    by_cases hz : u.getD 0 0 = 0
    · have hzb : (u.getD 0 0 == 0) = true := by rw [hz]; rfl
      have e6 : Hid (R0 = ⟨(sA n).cst 0, Y.s, 6⟩) := by
        show _ = _
        rw [hR0]
        show (if (sA n).zer Y.v = true then _ else _ : Rv (List Int)) = _
        rw [if_pos (by rw [HZ.out hc]; exact hzb)]
      clear hR0 hc
      generalize u.getD 0 0 = x0 at *
      generalize Y.c = yc at *
      go_wp2_with fail
      refine HF6.out.mono ?_; intro e w5 h5
      obtain ⟨k9, h9, a9, cap9, v9, rfl, h9'⟩ := h5.up (R := R) (w := w) (r' := R0) q4 (fun q hq => .inl hq) (by rw [e6.out]) (by rw [e6.out, if_pos HYC.out]) (by rw [if_pos HYC.out]; intro h; cases h)
      go_wp2_with fail
      go_ret
      exact ⟨k9, h9, a9, cap9, v9, rfl, h9'⟩
    · have hzb : (u.getD 0 0 == 0) = false := by simpa using hz
      have e6 : Hid (R0 = ⟨divl X.v Y.v, Y.s, 0⟩) := by
        show _ = _
        rw [hR0]
        show (if (sA n).zer Y.v = true then _ else _ : Rv (List Int)) = _
        rw [if_neg (by rw [HZ.out hc, hzb]; decide)]; rfl
      clear hR0 hc
      generalize u.getD 0 0 = x0 at *
      go_wp2_with fail
      refine HSC.out.mono ?_; rintro e w5 ⟨g, cap5, rfl, ho5, b5⟩
      go_wp2_with fail
      go_ret
      rw [e6.out]
      exact .fresh q4 (by show RnAt _ _ _ _ _ Y.s 0; rw [← HYC.out]; exact r4) b5 ho5 ((divl_len _ _).trans HVN.out) (divl_numsE _ _) (fun _ => by rw [HVE.out hxc, HUE.out HYC.out])
  · have hcb : (Y.c != 0) = true := by simp [hc]
    obtain ⟨h1, h2⟩ := HOP.out.1 hc
    have H12 := Lib.hid (And.intro h1 h2)
    have HYC := Lib.hid hc
    clear h1 h2 hc
    by_cases hz : u.getD 0 0 = 0
    · have hzb : (u.getD 0 0 == 0) = true := by rw [hz]; rfl
      generalize u.getD 0 0 = x0 at *
      go_wp2_with fail
      refine HF6.out.mono ?_; intro e w5 h5
      obtain ⟨k9, h9, a9, cap9, v9, rfl, h9'⟩ := h5.up (R := R) (w := w) (r' := R0) q4 (fun q hq => .inl hq) H12.out.1 (by rw [if_neg HYC.out]; exact H12.out.2) (by rw [if_neg HYC.out]; intro h; exact absurd h HYC.out)
      go_wp2_with fail
      go_ret
      exact ⟨k9, h9, a9, cap9, v9, rfl, h9'⟩
    · have hzb : (u.getD 0 0 == 0) = false := by simpa using hz
      generalize u.getD 0 0 = x0 at *
      go_wp2_with fail
      refine HF6.out.mono ?_; intro e w5 h5
      obtain ⟨k9, h9, a9, cap9, v9, rfl, h9'⟩ := h5.up (R := R) (w := w) (r' := R0) q4 (fun q hq => .inl hq) H12.out.1 (by rw [if_neg HYC.out]; exact H12.out.2) (by rw [if_neg HYC.out]; intro h; exact absurd h HYC.out)
      go_wp2_with fail
      go_ret
      exact ⟨k9, h9, a9, cap9, v9, rfl, h9'⟩

set_option maxRecDepth 100000 in
set_option maxHeartbeats 6400000 in
theorem sExprLet {fs : List Fn} {ap : Option Addr} {capp br bp op n B f : Nat} (hBr : B ≤ br) (hbp : bp < B) (hn1 : 1 ≤ n) (hn13 : n ≤ 13) (hV : PS fs ap capp br bp op n B f) (R : Nat → Prop) (fi : Nat) (nn p cc : Int) (ks : Fo) (a : Option Addr) (cap b off : Nat) (ae : Option Addr) (ce : Nat) (vars : List (List Int)) (s : Nat) (w : World)
    (hf : 3000 < f + 1 + s) (hs : s ≤ 3000) (h3 : ¬ s = 3000) (hfi : fi ≤ fs.length) (hn : nodeB fs (vars.length : Int) (fi : Int) 9 nn p cc ks.len = true) (ht : treeB fs (fi : Int) ks (vars.length : Int) 9 0 = true) (hR : RnAt w br bp op n s 0) (hp : w.cell? ⟨bp, op, none⟩ = some (.slice ap fs.length capp)) (hP : Pat w 0 B fs ap) (hN : NodeAt w b off 9 nn p cc ks.len a cap) (hb : b < B) (hF : Fat w 0 B ks a) (hkl : ks.len ≤ maxLen) (hE : En w br R n ae vars) (hRb : ∀ g, R g → g < w.heap.size) (hvl : vars.length ≤ 412 + s) :
    Calls Tryz.prog 111 #[.pointer (some ⟨br, 0, none⟩), .pointer (some ⟨b, off, none⟩), .slice ae vars.length ce] w (SRes br bp op R n w (nodE (sA n) fs (evE (sA n) fs f) 9 nn p cc ks vars (s + 1))) := by
  have h3b : ((s : Int) == 3000) = false := ne_beq (by omega)
  have hbw := cell_lt hR.c0
  obtain ⟨w1, hw1⟩ : ∃ w1, w.setCell ⟨br, 2, none⟩ (.int .i64 ((s : Int) + 1)) = w1 := ⟨_, rfl⟩
  have r1 : RnAt w1 br bp op n (s + 1) 0 := by rw [← hw1]; exact hR.step
  have q1 : Kp (fun b => b = br) w w1 := by rw [← hw1]; exact Kp.set (p := ⟨br, 2, none⟩) rfl
  have z1 : w1.heap.size = w.heap.size := by rw [← hw1]; simp
  have x2 := hR.c2
  have x3 := hR.c3
  have xf := hR.fz 2
  have E1 := hE.keep q1
  have P1 := hP.keepE q1 hBr hbw
  have F1 := hF.keepE q1 hBr hbw
  have hp1 := q1.cell hp (by omega)
  have hbw1 : br < w1.heap.size := by omega
  have hRb1 : ∀ g, R g → g < w1.heap.size := fun g hg => by have := hRb g hg; omega
  have HN1 := Lib.hid (hN.keepN q1 (by omega))
  obtain ⟨y0, y1, y2, y3, y4⟩ := hN.keepN q1 (by omega)
  clear hE hP hF hN hR
  have hk1 : ks.len = 2 := by have := (node_kids hn (by omega)).1; have : kidsNo 9 = 2 := rfl; omega
  obtain ⟨b2, b2o, rfl, hbB2⟩ := F1.blk (by omega)
  obtain ⟨k0, n0, p0, c0, kk0, hd0, hK0⟩ := kidE hBr hbp hV hbw1 hfi ht hp1 P1 F1 0 (by omega) (b2o + 0) (by omega)
  obtain ⟨k1, n1, p1, c1, kk1, hd1, hK1⟩ := kidE hBr hbp hV hbw1 hfi ht hp1 P1 F1 1 (by omega) (b2o + 5) (by omega)
  have HEV : Hid (nodE (sA n) fs (evE (sA n) fs f) 9 nn p cc ks vars (s + 1) = bindE (evX fs n f 0 k0 n0 p0 c0 kk0 vars (s + 1)) fun v s => evE (sA n) fs f k1 n1 p1 c1 kk1 (vars ++ [v]) s) := by
    show (bindE (atE (sA n) (evE (sA n) fs f) ks 0 vars (s + 1)) fun v s => atE (sA n) (evE (sA n) fs f) ks 1 (vars ++ [v]) s) = _
    rw [atE_eq hd0]
    congr 1
    funext v s
    rw [atE_eq hd1]
  generalize nodE (sA n) fs (evE (sA n) fs f) 9 nn p cc ks vars (s + 1) = R0 at HEV ⊢
  have HC := Lib.hid (hK0 R ae ce vars (s + 1) 0 w1 (Kp.refl _ _) (by show _ = _ + (0 : Int); omega) E1 hRb1 r1 (by omega) (by omega) (by omega))
  have hst : s + 1 ≤ (evX fs n f 0 k0 n0 p0 c0 kk0 vars (s + 1)).s ∧ (evX fs n f 0 k0 n0 p0 c0 kk0 vars (s + 1)).s ≤ 3000 := evE_stp fs f (s + 1) (by omega) _ _ _ _ _ _ _ (Nat.le_refl _) (by omega)
  generalize evX fs n f 0 k0 n0 p0 c0 kk0 vars (s + 1) = X at HC HEV hst
  have HK1 := Lib.hid hK1
  have HE1 := Lib.hid E1
  have g0 : (0 : Int) < (ks.len : Int) := by omega
  have g1 : (1 : Int) < (ks.len : Int) := by omega
  clear ht hn E1 P1 F1 hK0 hK1 hk1

  go_enter Tryz.func111, Tryz.ntmps111
  go_wp2_with fail
  refine HC.out.mono ?_; rintro e w3 ⟨k3, r3, a3, cap3, v, rfl, hvn, hvm, hvs, hvx, hve⟩
  have y43 := k3.cell y4 (by omega)
  have z3 := k3.size
  have hlv := hvs.lt
  have HENV := fun (W : World) (hk : Below w3.heap.size w3 W) => Lib.hid (sEnv (br := br) (n := n) (R := fun q => R q ∨ w1.heap.size ≤ q ∧ q < w3.heap.size) ae ce vars a3 cap3 v W (((HE1.out.keep k3).up (fun q hq => .inl hq)).next hk) (fun q hq => by have := hk.size; rcases hq with hq | hq; (have := hRb1 q hq; omega); omega) (by omega) (hvs.next hk) hvn hvm (fun gb hg => by rcases hvx gb hg with h | h; (exact .inl h); exact .inr ⟨h, hlv gb hg⟩))
  have HEX := fun (W w5 : World) (g5 kg5 : Nat) (hk : Below w3.heap.size w3 W) (b5 : Below W.heap.size W w5) (ho5 : Eo w5 W.heap.size br (fun q => R q ∨ w1.heap.size ≤ q ∧ q < w3.heap.size) n g5 kg5 (vars.length + 1) (vars ++ [v])) => Lib.hid (show Calls Tryz.prog 111 #[.pointer (some ⟨br, 0, none⟩), .pointer (some ⟨b2, b2o + 5, none⟩), .slice (some ⟨g5, 0, none⟩) (vars.length + 1) kg5] w5 (SRes br bp op (fun q => (R q ∨ w1.heap.size ≤ q ∧ q < w3.heap.size) ∨ W.heap.size ≤ q ∧ q < w5.heap.size) n w5 (evX fs n f X.c k1 n1 p1 c1 kk1 (vars ++ [v]) X.s)) from by
    have hkz := hk.size
    have hb5 := b5.size
    have h := HK1.out (fun q => (R q ∨ w1.heap.size ≤ q ∧ q < w3.heap.size) ∨ W.heap.size ≤ q ∧ q < w5.heap.size) (some ⟨g5, 0, none⟩) kg5 (vars ++ [v]) X.s X.c w5 ((k3.more hk).more b5) (by simp [more]) (ho5.en (by omega)) (fun q hq => by rcases hq with (hq | hq) | hq; (have := hRb1 q hq; omega); omega; omega) ((r3.next hk).next b5) (by omega) hst.2 (by simp; omega)
    rw [List.length_append] at h; exact h)
  have HVE := Lib.hid hve
  clear HC hve hvs HK1 y4 hvx hlv HE1
  go_wp2_with fail
  go_region_held3 (fun w' => w'.cell? ⟨b, off + 4, none⟩ = some (.slice (some ⟨b2, b2o, none⟩) ks.len cap))
    (first
      | with_reducible exact y43
      | with_reducible exact Y5.out
      | with_reducible exact Y9.out
      | go_keep)
    (first
      | (go_at_call 129; refine (HENV _ (by exact (Below.refl _ _).drew)).out.mono ?_; rintro e w5 ⟨b5, g5, kg5, rfl, ho5⟩; have Y5 : Hid (w5.cell? ⟨b, off + 4, none⟩ = some (.slice (some ⟨b2, b2o, none⟩) ks.len cap)) := (b5.cell (p := ⟨b, _, none⟩) (by show b < w3.heap.size; omega)).trans y43)
      | (go_at_call 111; refine (HEX w3.drew _ _ _ (Below.refl _ _).drew b5 ho5).out.mono ?_; rintro e w9 ⟨k9, r9, a9, cap9, v9, rfl, h9⟩; have Y9 : Hid (w9.cell? ⟨b, off + 4, none⟩ = some (.slice (some ⟨b2, b2o, none⟩) ks.len cap)) := k9.cell Y5.out (by omega)))
  all_goals
    have HRS := Lib.hid (bindX_eq (fs := fs) (n := n) (f := f) (k := k1) (nn := n1) (p := p1) (cc := c1) (kk := kk1) (vars := vars ++ [v]) HEV.out (fun h0 => by rw [HVE.out h0]))
    obtain ⟨t1, t2, a7, cap7, v7, t3, t4⟩ := (show SRes br bp op _ n w5 _ (.returned (.slice a9 n cap9)) w9 from ⟨k9, r9, a9, cap9, v9, rfl, h9⟩).up (R := R) (w := w) (r' := R0) (((q1.trans k3).more (Below.refl _ _).drew).more b5) (fun q hq => by
      have : w3.drew.heap.size = w3.heap.size := rfl
      rcases hq with (hq | hq) | hq
      · exact .inl hq
      · exact .inr (by omega)
      · exact .inr (by omega)) HRS.out.1 HRS.out.2.1 HRS.out.2.2
    go_wp2_with fail
    go_ret
    exact ⟨t1, t2, a7, cap7, v7, t3, t4⟩

set_option maxRecDepth 100000 in
set_option maxHeartbeats 6400000 in
theorem sExprCall10 {fs : List Fn} {ap : Option Addr} {capp br bp op n B f : Nat} (hBr : B ≤ br) (hbp : bp < B) (hn1 : 1 ≤ n) (hn13 : n ≤ 13) (hV : PS fs ap capp br bp op n B f) (hVO : PSO fs ap capp br bp op n B f) (hFn : ∀ i, i < fs.length → fnB fs i = true) (hfl : fs.length ≤ 1048576) (R : Nat → Prop) (fi : Nat) (nn p cc : Int) (ks : Fo) (a : Option Addr) (cap b off : Nat) (ae : Option Addr) (ce : Nat) (vars : List (List Int)) (s : Nat) (w : World)
    (hf : 3000 < f + 1 + s) (hs : s ≤ 3000) (h3 : ¬ s = 3000) (hfi : fi ≤ fs.length) (hn : nodeB fs (vars.length : Int) (fi : Int) 10 nn p cc ks.len = true) (ht : treeB fs (fi : Int) ks (vars.length : Int) 10 0 = true) (hR : RnAt w br bp op n s 0) (hp : w.cell? ⟨bp, op, none⟩ = some (.slice ap fs.length capp)) (hP : Pat w 0 B fs ap) (hN : NodeAt w b off 10 nn p cc ks.len a cap) (hb : b < B) (hF : Fat w 0 B ks a) (hkl : ks.len ≤ maxLen) (hE : En w br R n ae vars) (hRb : ∀ g, R g → g < w.heap.size) (hvl : vars.length ≤ 412 + s) :
    Calls Tryz.prog 111 #[.pointer (some ⟨br, 0, none⟩), .pointer (some ⟨b, off, none⟩), .slice ae vars.length ce] w (SRes br bp op R n w (nodE (sA n) fs (evE (sA n) fs f) 10 nn p cc ks vars (s + 1))) := by
  have h3b : ((s : Int) == 3000) = false := ne_beq (by omega)
  have hbw := cell_lt hR.c0
  obtain ⟨w1, hw1⟩ : ∃ w1, w.setCell ⟨br, 2, none⟩ (.int .i64 ((s : Int) + 1)) = w1 := ⟨_, rfl⟩
  have r1 : RnAt w1 br bp op n (s + 1) 0 := by rw [← hw1]; exact hR.step
  have q1 : Kp (fun b => b = br) w w1 := by rw [← hw1]; exact Kp.set (p := ⟨br, 2, none⟩) rfl
  have z1 : w1.heap.size = w.heap.size := by rw [← hw1]; simp
  have x2 := hR.c2
  have x3 := hR.c3
  have xf := hR.fz 2
  have E1 := hE.keep q1
  have P1 := hP.keepE q1 hBr hbw
  have F1 := hF.keepE q1 hBr hbw
  have hp1 := q1.cell hp (by omega)
  have hbw1 : br < w1.heap.size := by omega
  have hRb1 : ∀ g, R g → g < w1.heap.size := fun g hg => by have := hRb g hg; omega
  have HN1 := Lib.hid (hN.keepN q1 (by omega))
  obtain ⟨y0, y1, y2, y3, y4⟩ := hN.keepN q1 (by omega)
  clear hE hP hF hN hR
  obtain ⟨h1, h2, h4, h5⟩ := node_call hn (.inl rfl)
  have HC := Lib.hid (sCall hBr hbp hV hVO hFn hfl R fi 10 nn p cc ks a cap b off ae ce vars (s + 1) w1 (by omega) (by omega) (by omega) hfi h1 h2 h4 h5 ht r1 hp1 P1 HN1.out hb F1 hkl E1 hRb1 (by omega))
  have HEV : Hid (nodE (sA n) fs (evE (sA n) fs f) 10 nn p cc ks vars (s + 1) = (if (10 : Int) = 10 then bindL (sA n) (lisE (sA n) (evE (sA n) fs f) ks vars (s + 1) ks.len) (fun l s => atE (sA n) (evE (sA n) fs f) (fs.getD nn.toNat noFn).outs p.toNat l s) else bindL (sA n) (lopE (sA n) (evE (sA n) fs f) (fs.getD nn.toNat noFn).outs (lisE (sA n) (evE (sA n) fs f) ks vars (s + 1) ks.len) cc.toNat) (fun l s => ⟨l.getD p.toNat ((sA n).cst 0), s, 0⟩))) := rfl
  clear ht hn E1 P1 F1 h1 h2 h4 h5

  go_enter Tryz.func111, Tryz.ntmps111
  go_wp2_with fail
  refine HC.out.mono ?_; rintro e w3 ⟨k3, r3, a3, cap3, v, rfl, h3'⟩
  go_wp2_with fail
  go_ret
  rw [HEV.out]
  exact ⟨q1.trans k3, r3, a3, cap3, v, rfl, h3'.1, h3'.2.1, h3'.2.2.1, fun g hg => (h3'.2.2.2.1 g hg).imp id (fun h => by omega), h3'.2.2.2.2⟩

set_option maxRecDepth 100000 in
set_option maxHeartbeats 6400000 in
theorem sExprCall11 {fs : List Fn} {ap : Option Addr} {capp br bp op n B f : Nat} (hBr : B ≤ br) (hbp : bp < B) (hn1 : 1 ≤ n) (hn13 : n ≤ 13) (hV : PS fs ap capp br bp op n B f) (hVO : PSO fs ap capp br bp op n B f) (hFn : ∀ i, i < fs.length → fnB fs i = true) (hfl : fs.length ≤ 1048576) (R : Nat → Prop) (fi : Nat) (nn p cc : Int) (ks : Fo) (a : Option Addr) (cap b off : Nat) (ae : Option Addr) (ce : Nat) (vars : List (List Int)) (s : Nat) (w : World)
    (hf : 3000 < f + 1 + s) (hs : s ≤ 3000) (h3 : ¬ s = 3000) (hfi : fi ≤ fs.length) (hn : nodeB fs (vars.length : Int) (fi : Int) 11 nn p cc ks.len = true) (ht : treeB fs (fi : Int) ks (vars.length : Int) 11 0 = true) (hR : RnAt w br bp op n s 0) (hp : w.cell? ⟨bp, op, none⟩ = some (.slice ap fs.length capp)) (hP : Pat w 0 B fs ap) (hN : NodeAt w b off 11 nn p cc ks.len a cap) (hb : b < B) (hF : Fat w 0 B ks a) (hkl : ks.len ≤ maxLen) (hE : En w br R n ae vars) (hRb : ∀ g, R g → g < w.heap.size) (hvl : vars.length ≤ 412 + s) :
    Calls Tryz.prog 111 #[.pointer (some ⟨br, 0, none⟩), .pointer (some ⟨b, off, none⟩), .slice ae vars.length ce] w (SRes br bp op R n w (nodE (sA n) fs (evE (sA n) fs f) 11 nn p cc ks vars (s + 1))) := by
  have h3b : ((s : Int) == 3000) = false := ne_beq (by omega)
  have hbw := cell_lt hR.c0
  obtain ⟨w1, hw1⟩ : ∃ w1, w.setCell ⟨br, 2, none⟩ (.int .i64 ((s : Int) + 1)) = w1 := ⟨_, rfl⟩
  have r1 : RnAt w1 br bp op n (s + 1) 0 := by rw [← hw1]; exact hR.step
  have q1 : Kp (fun b => b = br) w w1 := by rw [← hw1]; exact Kp.set (p := ⟨br, 2, none⟩) rfl
  have z1 : w1.heap.size = w.heap.size := by rw [← hw1]; simp
  have x2 := hR.c2
  have x3 := hR.c3
  have xf := hR.fz 2
  have E1 := hE.keep q1
  have P1 := hP.keepE q1 hBr hbw
  have F1 := hF.keepE q1 hBr hbw
  have hp1 := q1.cell hp (by omega)
  have hbw1 : br < w1.heap.size := by omega
  have hRb1 : ∀ g, R g → g < w1.heap.size := fun g hg => by have := hRb g hg; omega
  have HN1 := Lib.hid (hN.keepN q1 (by omega))
  obtain ⟨y0, y1, y2, y3, y4⟩ := hN.keepN q1 (by omega)
  clear hE hP hF hN hR
  obtain ⟨h1, h2, h4, h5⟩ := node_call hn (.inr rfl)
  have HC := Lib.hid (sCall hBr hbp hV hVO hFn hfl R fi 11 nn p cc ks a cap b off ae ce vars (s + 1) w1 (by omega) (by omega) (by omega) hfi h1 h2 h4 h5 ht r1 hp1 P1 HN1.out hb F1 hkl E1 hRb1 (by omega))
  have HEV : Hid (nodE (sA n) fs (evE (sA n) fs f) 11 nn p cc ks vars (s + 1) = (if (11 : Int) = 10 then bindL (sA n) (lisE (sA n) (evE (sA n) fs f) ks vars (s + 1) ks.len) (fun l s => atE (sA n) (evE (sA n) fs f) (fs.getD nn.toNat noFn).outs p.toNat l s) else bindL (sA n) (lopE (sA n) (evE (sA n) fs f) (fs.getD nn.toNat noFn).outs (lisE (sA n) (evE (sA n) fs f) ks vars (s + 1) ks.len) cc.toNat) (fun l s => ⟨l.getD p.toNat ((sA n).cst 0), s, 0⟩))) := rfl
  clear ht hn E1 P1 F1 h1 h2 h4 h5

  go_enter Tryz.func111, Tryz.ntmps111
  go_wp2_with fail
  refine HC.out.mono ?_; rintro e w3 ⟨k3, r3, a3, cap3, v, rfl, h3'⟩
  go_wp2_with fail
  go_ret
  rw [HEV.out]
  exact ⟨q1.trans k3, r3, a3, cap3, v, rfl, h3'.1, h3'.2.1, h3'.2.2.1, fun g hg => (h3'.2.2.2.1 g hg).imp id (fun h => by omega), h3'.2.2.2.2⟩

set_option maxRecDepth 100000 in
set_option maxHeartbeats 6400000 in
theorem sExprS {fs : List Fn} {ap : Option Addr} {capp br bp op n B f : Nat} (hBr : B ≤ br) (hbp : bp < B) (hn1 : 1 ≤ n) (hn13 : n ≤ 13) (hV : PS fs ap capp br bp op n B f) (hVO : PSO fs ap capp br bp op n B f) (hFn : ∀ i, i < fs.length → fnB fs i = true) (hfl : fs.length ≤ 1048576) : PS fs ap capp br bp op n B (f + 1) := by
  intro R fi k nn p cc ks a cap b off ae ce vars s c w hf hs hfi hn ht hR hp hP hN hb hF hkl hE hRb hvl
  by_cases hc : c = 0
  · subst hc
    by_cases h3 : s = 3000
    · have e : Hid (evX fs n (f + 1) 0 k nn p cc ks vars s = ⟨(sA n).cst 0, s, 7⟩) := by show _ = _; unfold evX; rw [if_pos rfl, evE_end h3]
      have h3b : ((s : Int) == 3000) = true := by rw [h3]; rfl
      have x2 := hR.c2
      have x3 := hR.c3
      have HC := Lib.hid (sFail br bp op R n s 0 7 w hR hn13 (by decide))
      generalize evX fs n (f + 1) 0 k nn p cc ks vars s = R0 at e ⊢
      clear hn ht hR hP hN hF hE h3
      go_enter Tryz.func111, Tryz.ntmps111
      go_wp2_with fail
      refine HC.out.mono ?_; intro e3 w3 h3'
      obtain ⟨t1, t2, a7, cap7, v7, rfl, t4⟩ := h3'.up (R := R) (w := w) (r' := R0) (Kp.refl _ _) (fun q hq => .inl hq) (by rw [e.out]) (by rw [e.out]; simp) (by intro h; simp at h)
      go_wp2_with fail
      go_ret
      exact ⟨t1, t2, a7, cap7, v7, rfl, t4⟩
    · have e : evX fs n (f + 1) 0 k nn p cc ks vars s = nodE (sA n) fs (evE (sA n) fs f) k nn p cc ks vars (s + 1) := by unfold evX; rw [if_pos rfl, evE_go h3]
      rw [e]
      have hkd := node_kind hn
      rcases (by omega : k = 1 ∨ k = 2 ∨ k = 3 ∨ k = 4 ∨ k = 5 ∨ k = 6 ∨ k = 7 ∨ k = 8 ∨ k = 9 ∨ k = 10 ∨ k = 11) with rfl | rfl | rfl | rfl | rfl | rfl | rfl | rfl | rfl | rfl | rfl
      · exact sExprNum hBr hbp hn1 hn13 hV R fi nn p cc ks a cap b off ae ce vars s w (by omega) hs h3 hfi hn ht hR hp hP hN hb hF hkl hE hRb hvl
      · exact sExprVar hBr hbp hn1 hn13 hV R fi nn p cc ks a cap b off ae ce vars s w (by omega) hs h3 hfi hn ht hR hp hP hN hb hF hkl hE hRb hvl
      · exact sExprOp3 hBr hbp hn1 hn13 hV R fi nn p cc ks a cap b off ae ce vars s w (by omega) hs h3 hfi hn ht hR hp hP hN hb hF hkl hE hRb hvl
      · exact sExprOp4 hBr hbp hn1 hn13 hV R fi nn p cc ks a cap b off ae ce vars s w (by omega) hs h3 hfi hn ht hR hp hP hN hb hF hkl hE hRb hvl
      · exact sExprOp5 hBr hbp hn1 hn13 hV R fi nn p cc ks a cap b off ae ce vars s w (by omega) hs h3 hfi hn ht hR hp hP hN hb hF hkl hE hRb hvl
      · exact sExprOp6 hBr hbp hn1 hn13 hV R fi nn p cc ks a cap b off ae ce vars s w (by omega) hs h3 hfi hn ht hR hp hP hN hb hF hkl hE hRb hvl
      · exact sExprNeg hBr hbp hn1 hn13 hV R fi nn p cc ks a cap b off ae ce vars s w (by omega) hs h3 hfi hn ht hR hp hP hN hb hF hkl hE hRb hvl
      · exact sExprIf hBr hbp hn1 hn13 hV R fi nn p cc ks a cap b off ae ce vars s w (by omega) hs h3 hfi hn ht hR hp hP hN hb hF hkl hE hRb hvl
      · exact sExprLet hBr hbp hn1 hn13 hV R fi nn p cc ks a cap b off ae ce vars s w (by omega) hs h3 hfi hn ht hR hp hP hN hb hF hkl hE hRb hvl
      · exact sExprCall10 hBr hbp hn1 hn13 hV hVO hFn hfl R fi nn p cc ks a cap b off ae ce vars s w (by omega) hs h3 hfi hn ht hR hp hP hN hb hF hkl hE hRb hvl
      · exact sExprCall11 hBr hbp hn1 hn13 hV hVO hFn hfl R fi nn p cc ks a cap b off ae ce vars s w (by omega) hs h3 hfi hn ht hR hp hP hN hb hF hkl hE hRb hvl
  · have e : Hid (evX fs n (f + 1) c k nn p cc ks vars s = ⟨[], s, c⟩) := by show _ = _; unfold evX; rw [if_neg hc]
    have hcb : (c != 0) = true := by simp [hc]
    have x2 := hR.c2
    have x3 := hR.c3
    have HC := Lib.hid (sFail br bp op R n s c c w hR hn13 hc)
    generalize evX fs n (f + 1) c k nn p cc ks vars s = R0 at e ⊢
    clear hn ht hR hP hN hF hE
    go_enter Tryz.func111, Tryz.ntmps111
    go_wp2_with fail
    refine HC.out.mono ?_; intro e3 w3 h3'
    obtain ⟨t1, t2, a7, cap7, v7, rfl, t4⟩ := h3'.up (R := R) (w := w) (r' := R0) (Kp.refl _ _) (fun q hq => .inl hq) (by rw [e.out]) (by rw [e.out, if_neg hc]) (by rw [if_neg hc]; intro h; exact absurd h hc)
    go_wp2_with fail
    go_ret
    exact ⟨t1, t2, a7, cap7, v7, rfl, t4⟩
theorem sEvals {fs : List Fn} {ap : Option Addr} {capp br bp op n B : Nat} (hBr : B ≤ br) (hbp : bp < B) (hn1 : 1 ≤ n) (hn13 : n ≤ 13) (hFn : ∀ i, i < fs.length → fnB fs i = true) (hfl : fs.length ≤ 1048576) : ∀ f, PS fs ap capp br bp op n B f ∧ PSO fs ap capp br bp op n B f
  | 0 => by
    have h : PS fs ap capp br bp op n B 0 := by
      intro R fi k nn p cc ks a cap b off ae ce vars s c w hf hs
      omega
    exact ⟨h, sOuts hBr hbp h⟩
  | f + 1 => by
    obtain ⟨h1, h2⟩ := sEvals hBr hbp hn1 hn13 hFn hfl f
    have h := sExprS hBr hbp hn1 hn13 h1 h2 hFn hfl
    exact ⟨h, sOuts hBr hbp h⟩

end Go.Proofs.YtldbhhocoolloaaGreat

namespace Go.Proofs.YtldbhhocoolloaaGreat
open Go.RowKit
set_option linter.unusedVariables false

def cCodE (fs : List Fn) (f : Int) : Int := if progB fs = true then (if 0 ≤ f ∧ f < (fs.length : Int) then 0 else 2) else 1
set_option maxRecDepth 100000 in
set_option maxHeartbeats 3200000 in
theorem sAskedE (fs : List Fn) (bp op : Nat) (ap : Option Addr) (capp : Nat) (f : Int) (w : World)
    (hp : w.cell? ⟨bp, op, none⟩ = some (.slice ap fs.length capp)) (hP : Pat w 0 w.heap.size fs ap) (hsz : pgSize fs ≤ 1048576) :
    Calls Tryz.prog 84 #[.pointer (some ⟨bp, op, none⟩), .int .i64 f] w (Quiet (.int .i64 (cCodE fs f)) w) := by
  have hl : fs.length ≤ 1048576 := by unfold pgSize at hsz; omega
  have hli : (fs.length : Int) ≤ 1048576 := by omega
  have HO := Lib.hid (sOkP fs bp op ap capp w hp hP hsz)
  cases hpb : progB fs with
  | false =>
    have HF : Hid (cCodE fs f = 1) := if_neg (by rw [hpb]; simp)
    rw [hpb] at HO
    clear hpb hP
    go_enter Tryz.func84, Tryz.ntmps84
    go_wp2_with fail
    refine (HO.out).mono ?_; rintro e w1 ⟨rfl, hq⟩
    obtain ⟨q, rfl⟩ := hq
    go_wp2_with fail
    go_ret
    exact ⟨ret_int HF.out.symm, q, rfl⟩
  | true =>
    rw [hpb] at HO
    by_cases h1 : 0 ≤ f ∧ f < (fs.length : Int)
    · have HF : Hid (cCodE fs f = 0) := by show _ = _; unfold cCodE; rw [if_pos hpb, if_pos h1]
      clear hpb hP
      go_enter Tryz.func84, Tryz.ntmps84
      go_wp2_with fail
      refine (HO.out).mono ?_; rintro e w1 ⟨rfl, hq⟩
      obtain ⟨q, rfl⟩ := hq
      go_wp2_with fail
      refine (inT f 0 ((fs.length : Int) - 1) h1.1 (by omega) _).mono ?_; rintro e w1 ⟨rfl, rfl⟩
      go_wp2_with fail
      go_ret
      exact ⟨ret_int HF.out.symm, q, rfl⟩
    · have HF : Hid (cCodE fs f = 2) := by show _ = _; unfold cCodE; rw [if_pos hpb, if_neg h1]
      clear hpb hP
      go_enter Tryz.func84, Tryz.ntmps84
      go_wp2_with fail
      refine (HO.out).mono ?_; rintro e w1 ⟨rfl, hq⟩
      obtain ⟨q, rfl⟩ := hq
      go_wp2_with fail
      refine (inF f 0 ((fs.length : Int) - 1) (by omega) _).mono ?_; rintro e w1 ⟨rfl, rfl⟩
      go_wp2_with fail
      go_ret
      exact ⟨ret_int HF.out.symm, q, rfl⟩


theorem cCodE_yes {fs : List Fn} {f : Int} (hp : progB fs = true) (h : 0 ≤ f ∧ f < (fs.length : Int)) : cCodE fs f = 0 := by unfold cCodE; rw [if_pos hp, if_pos h]
theorem plC_asked {fs : List Fn} {f : Int} {args : List Int} (h : ¬ cCodE fs f = 0) : plC fs f args = cCodE fs f := by
  unfold plC
  unfold cCodE at h ⊢
  by_cases hp : progB fs = true
  · rw [if_pos hp] at h ⊢
    rw [if_pos hp]
    by_cases h2 : 0 ≤ f ∧ f < (fs.length : Int)
    · rw [if_pos h2] at h; exact absurd rfl h
    · rw [if_neg h2, if_neg h2]
  · rw [if_neg hp, if_neg hp]
set_option maxRecDepth 100000 in
set_option maxHeartbeats 3200000 in
theorem sArgs (fs : List Fn) (bp op : Nat) (ap : Option Addr) (capp : Nat) (f : Int) (aa : Option Addr) (ca : Nat) (args : List Int) (w : World)
    (hp : w.cell? ⟨bp, op, none⟩ = some (.slice ap fs.length capp)) (hP : Pat w 0 w.heap.size fs ap) (hsz : pgSize fs ≤ 1048576) (hA : At w aa args) (hal : args.length ≤ 1048576) :
    Calls Tryz.prog 41 #[.pointer (some ⟨bp, op, none⟩), .int .i64 f, .slice aa args.length ca] w (Quiet (.int .i64 (plC fs f args)) w) := by
  have HA := Lib.hid (sAskedE fs bp op ap capp f w hp hP hsz)
  have HN := fun q => Lib.hid (sNumbers aa ca args (w.drewN q) (hA.drewN q) (by omega))
  by_cases h0 : cCodE fs f = 0
  · have hk : progB fs = true ∧ (0 ≤ f ∧ f < (fs.length : Int)) := by
      unfold cCodE at h0
      by_cases hpb : progB fs = true
      · rw [if_pos hpb] at h0
        by_cases h2 : 0 ≤ f ∧ f < (fs.length : Int)
        · exact ⟨hpb, h2⟩
        · rw [if_neg h2] at h0; cases h0
      · rw [if_neg hpb] at h0; cases h0
    obtain ⟨j, rfl⟩ := Int.eq_ofNat_of_zero_le hk.2.1
    have hj : j < fs.length := by omega
    obtain ⟨bf, of, rfl, hbB, hall⟩ := hP.resolve_left (by intro e; rw [e] at hj; simp at hj)
    obtain ⟨hr, af, cf, f0, f1, f2, hFo⟩ := hall j hj
    have HPL : Hid (plC fs (j : Int) args = if areB args (fs.getD j noFn).params = true then 0 else 2) := by show _ = _; unfold plC; rw [if_pos hk.1, if_pos hk.2]; rfl
    rw [h0] at HA
    have hji : (j : Int) < (fs.length : Int) := hk.2.2
    generalize plC fs (j : Int) args = pc at HPL ⊢
    clear hk hall hr f0 f2 hFo hP hA h0
    generalize (fs.getD j noFn).params = pm at *
    by_cases hl : (args.length : Int) = pm
    · have hlb : ((args.length : Int) != pm) = false := by rw [hl]; simp
      have HAR : Hid (areB args pm = okNums args) := areB_of hl
      clear hl
      go_enter Tryz.func41, Tryz.ntmps41
      go_wp2_with fail
      refine HA.out.mono ?_; rintro e w1 ⟨rfl, q, rfl⟩
      have f1' : (w.drewN q).cell? ⟨bf, of + j * 3 + 1, none⟩ = some (.int .i64 pm) := f1
      have hp' : (w.drewN q).cell? ⟨bp, op, none⟩ = some (.slice (some ⟨bf, of, none⟩) fs.length capp) := hp
      cases hn : okNums args with
      | true =>
        rw [hn] at HN HAR
        have HP0 : Hid (pc = 0) := by show _ = _; rw [HPL.out, HAR.out]; rfl
        clear HPL HAR
        go_wp2_with fail
        refine (HN q).out.mono ?_; rintro e w1 ⟨rfl, rfl⟩
        go_wp2_with fail
        go_ret
        exact ⟨ret_int HP0.out.symm, q, rfl⟩
      | false =>
        rw [hn] at HN HAR
        have HP0 : Hid (pc = 2) := by show _ = _; rw [HPL.out, HAR.out]; rfl
        clear HPL HAR
        go_wp2_with fail
        refine (HN q).out.mono ?_; rintro e w1 ⟨rfl, rfl⟩
        go_wp2_with fail
        go_ret
        exact ⟨ret_int HP0.out.symm, q, rfl⟩
    · have hlb : ((args.length : Int) != pm) = true := by simpa using hl
      have HP0 : Hid (pc = 2) := by show _ = _; rw [HPL.out, areB_len hl]; rfl
      clear HPL hl
      go_enter Tryz.func41, Tryz.ntmps41
      go_wp2_with fail
      refine HA.out.mono ?_; rintro e w1 ⟨rfl, q, rfl⟩
      have f1' : (w.drewN q).cell? ⟨bf, of + j * 3 + 1, none⟩ = some (.int .i64 pm) := f1
      have hp' : (w.drewN q).cell? ⟨bp, op, none⟩ = some (.slice (some ⟨bf, of, none⟩) fs.length capp) := hp
      go_wp2_with fail
      go_ret
      exact ⟨ret_int HP0.out.symm, q, rfl⟩
  · have hb : (cCodE fs f == 0) = false := by simpa using h0
    have HP0 : Hid (plC fs f args = cCodE fs f) := plC_asked h0
    generalize plC fs f args = pc at HP0 ⊢
    generalize cCodE fs f = cd at *
    clear h0
    go_enter Tryz.func41, Tryz.ntmps41
    go_wp2_with fail
    refine HA.out.mono ?_; rintro e w1 ⟨rfl, q, rfl⟩
    go_wp2_with fail
    go_ret
    exact ⟨ret_int HP0.out.symm, q, rfl⟩

end Go.Proofs.YtldbhhocoolloaaGreat

namespace Go.Proofs.YtldbhhocoolloaaGreat
open Go.RowKit
set_option linter.unusedVariables false

/-- the series of a value and a slope -/
def rowL (x y : Int) (n : Nat) : List Int := (cstl x n).set 1 y
theorem rowL_len (x y : Int) (n : Nat) : (rowL x y n).length = n := by simp [rowL, cstl_len]
theorem rowL_nums {x y : Int} {n : Nat} (hx : 0 ≤ x ∧ x < 1000003) (hy : 0 ≤ y ∧ y < 1000003) : Nums (rowL x y n) := by
  intro z hz
  unfold rowL at hz
  rcases List.mem_or_eq_of_mem_set hz with hz | rfl
  · exact cstl_numsE hx z hz
  · exact hy
/-- the series of the first i arguments -/
def lnT (args dir : List Int) (n i : Nat) : List (List Int) := (List.range i).map fun k => rowL (args.getD k 0) (dir.getD k 0) n
theorem lnT_succ (args dir : List Int) (n i : Nat) : lnT args dir n (i + 1) = lnT args dir n i ++ [rowL (args.getD i 0) (dir.getD i 0) n] := by simp [lnT, List.range_succ]
theorem lnT_len (args dir : List Int) (n i : Nat) : (lnT args dir n i).length = i := by simp [lnT]
theorem lnT_at (args dir : List Int) {n i k : Nat} (h : k < i) : (lnT args dir n i).getD k [] = rowL (args.getD k 0) (dir.getD k 0) n := by
  unfold lnT
  rw [List.getD_eq_getElem?_getD, List.getElem?_map, List.getElem?_range h]; rfl
theorem rowsKept {w w' : World} {L g k kg : Nat} {vs : List Value} (h : w.ownsRow L 25 1 (.slice (some ⟨g, 0, none⟩) k kg) k vs) (hb : Below w.heap.size w w') : w'.ownsRow L 25 1 (.slice (some ⟨g, 0, none⟩) k kg) k vs :=
  World.ownsRow.kept h (below_grownBy hb) (.inr (by simp [Value.ownBlock]))
theorem eo_start (w : World) (br n : Nat) (R : Nat → Prop) : Eo (w.alloc (.cells #[] 25)) w.heap.size br R n w.heap.size 0 0 [] :=
  ⟨⟨[], World.ownsRow_made w #[] 0 (Nat.le_refl _) (by unfold maxLen; omega) rfl, fun i h => absurd h (Nat.not_lt_zero _)⟩, rfl, fun i h => absurd h (Nat.not_lt_zero _), fun i h => absurd h (Nat.not_lt_zero _)⟩
theorem sConstN (x : Int) (n : Nat) (hn : n ≤ 1048576) (w : World) :
    Calls Tryz.prog 105 #[.int .i64 x, .int .i64 n] w fun e w' => ∃ g c, e = .returned (.slice (some ⟨g, 0, none⟩) n c) ∧ Own w.heap.size w' g c (cstl x n) ∧ Below w.heap.size w w' := by
  refine (sConst x n w hn).mono ?_
  rintro e w' ⟨g, c, rfl, h1, h2⟩
  exact ⟨g, c, by rw [cstl_len], h1, h2⟩

set_option maxRecDepth 100000 in
set_option maxHeartbeats 6400000 in
theorem sLine (n : Nat) (hn1 : 1 ≤ n) (hn13 : n ≤ 13) (o : Int) (ho : o + 1 = (n : Int)) (bp : Nat) (aa da : Option Addr) (ca cd : Nat) (args dir : List Int) (w : World) (hbp : bp < w.heap.size) (hA : At w aa args) (hD : At w da dir) (hl : dir.length = args.length) (hal : args.length ≤ 12) (hN : Nums args) (hM : Nums dir) :
    Calls Tryz.prog 98 #[.slice aa args.length ca, .slice da dir.length cd, .int .i64 o] w fun e w' => ∃ g kg, e = .returned (.slice (some ⟨g, 0, none⟩) args.length kg) ∧ Eo w' w.heap.size bp (fun _ => False) n g kg args.length (lnT args dir n args.length) ∧ Below w.heap.size w w' := by
  obtain ⟨i1, hj1, hy0, hy1, hy2⟩ := info_parts infoRowE
  have HO0 : Hid (Eo (w.alloc (.cells #[] 25)) w.heap.size bp (fun _ => False) n w.heap.size 0 0 (lnT args dir n 0)) := eo_start w bp n _
  have HB0 : Hid (Below w.heap.size w (w.alloc (.cells #[] 25))) := (Below.refl _ _).alloc (Nat.le_refl _) _
  have HA := Lib.hid hA
  have HD := Lib.hid hD
  have HN := Lib.hid hN
  have HM := Lib.hid hM
  have HLE := Lib.hid hl
  clear hA hD hN hM hl
  go_enter Tryz.func98, Tryz.ntmps98
  go_wp2_with fail
  go_loopw [7, 8] (fun lv x wr => ∃ (i g kg : Nat), i ≤ args.length ∧ x = .int .i64 i ∧ lv = .slice (some ⟨g, 0, none⟩) i kg ∧ Hid (Eo wr w.heap.size bp (fun _ => False) n g kg i (lnT args dir n i)) ∧ Hid (Below w.heap.size w wr)) (fun _ x _ => args.length - (intOf x).toNat)
  case atStart => exact ⟨0, w.heap.size, 0, Nat.zero_le _, rfl, rfl, HO0.out, HB0.out⟩
  case round =>
    obtain ⟨i, g, kg, hi2, rfl, rfl, HO, HB⟩ := hrel
    clear HO0 HB0
    have hgb := HO.out.base
    have hzr := HB.out.size
    by_cases hlt : i < args.length
    · have hii : (i : Int) < (args.length : Int) := by omega
      have hid : (i : Int) < (dir.length : Int) := by rw [HLE.out]; exact hii
      obtain ⟨b7, o7, rfl, hb7, hc7⟩ := (HA.out.below HB.out (Nat.le_refl _)).resolve_left (by intro e; rw [e] at hlt; simp at hlt)
      obtain ⟨b8, o8, rfl, hb8, hc8⟩ := (HD.out.below HB.out (Nat.le_refl _)).resolve_left (by intro e; have := HLE.out; rw [e] at this; simp at this; omega)
      have hx := hc7 i hlt
      have hy := hc8 i (by rw [HLE.out]; exact hlt)
      have HX := Lib.hid (HN.out.at i)
      have HY := Lib.hid (HM.out.at i)
      have HTK : Hid (lnT args dir n (i + 1) = lnT args dir n i ++ [rowL (args.getD i 0) (dir.getD i 0) n]) := lnT_succ args dir n i
      obtain ⟨us, hu1, hu2⟩ := HO.out.top
      have hul : us.length = i := by have := hu1.1; omega
      have HU1 := Lib.hid hu1
      have HU2 := Lib.hid hu2
      have HOL := Lib.hid (And.intro HO.out.vl (And.intro HO.out.len HO.out.nums))
      have HSC := fun (x : Int) (W : World) => Lib.hid (sConstN x n (by omega) W)
      clear hu1 hu2 HO hc7 hc8
      generalize args.getD i 0 = x at *
      generalize dir.getD i 0 = y at *
      have hi9 : IntKind.i64.wrap (o + 1) = o + 1 := IntWalk.i64_in _ (by omega)
      go_wp2_with fail
      refine (HSC _ _).out.mono ?_; rintro e w2 ⟨g2, c2, rfl, ho2, hb2⟩
      have hg2 := ho2.base
      have hy2' := (hb2.cell (p := ⟨b8, o8 + i, none⟩) (by show b8 < _; omega)).trans hy
      have HB2 := Lib.hid hb2
      have HO2 := Lib.hid ho2
      clear HSC
      by_cases hpos : (0 : Int) < o
      · have h1n : (1 : Int) < (n : Int) := by omega
        have hcs := ho2.cellAt 1 (by rw [cstl_len]; omega)
        have hfr := ho2.frz 1
        have HO3 : Hid (Own wr.heap.size (w2.setCell ⟨g2, 1, none⟩ (.int .i64 y)) g2 c2 (rowL x y n)) := ho2.set 1 y
        have HB3 : Hid (Below wr.heap.size wr (w2.setCell ⟨g2, 1, none⟩ (.int .i64 y))) := hb2.setCell (p := ⟨g2, 1, none⟩) hg2.1 _
        clear ho2 hb2
        generalize (cstl x n).getD 1 0 = z at hcs
        have hsz : (w2.setCell ⟨g2, 1, none⟩ (.int .i64 y)).heap.size = w2.heap.size := by simp
        have hz3 := HB3.out.size
        have hu1A := rowsKept HU1.out HB3.out
        have HU2A : Hid (∀ k, k < i → ∃ ai ci, us[k]? = some (.slice ai n ci) ∧ Ls (w2.setCell ⟨g2, 1, none⟩ (.int .i64 y)) bp ai ((lnT args dir n i).getD k []) ∧ ∀ gb, blk ai ((lnT args dir n i).getD k []) = some gb → gb ≠ g ∧ (False ∨ w.heap.size ≤ gb)) := by
          show ∀ k, _
          intro k hk
          obtain ⟨ai, ci, h1, h2, h3⟩ := HU2.out k hk
          exact ⟨ai, ci, h1, h2.next HB3.out, h3⟩
        clear HU1 HU2 hx hy HB2 HO2
        go_wp2_with (at_builtin; refine wpList_append_lies _ rfl _ _ _ rfl w.heap.size 25 i1 _ 1 24 Tryz.underlying39 hj1 hy0 hy1 hy2 rfl (by omega) (.slice (some ⟨g, 0, none⟩) i kg) i us rfl (hu1A.alloc _) ⟨w2.heap.size, 0, none⟩ 1 1 [.slice (some ⟨g2, 0, none⟩) n c2] rfl rfl (by have h9 := World.news_of_block (cs := #[.slice (some ⟨g2, 0, none⟩) n c2]) (t := 25) (fr := (0, 0)) (heap_alloc_new (w2.setCell ⟨g2, 1, none⟩ (.int .i64 y)) _); rw [hsz] at h9; exact h9) (by simp [Value.oneCell']) (by omega) (by unfold maxLen; omega) (by omega) (by simp; omega) (w2.heap.size + 1) (by simp) ?_; intro gg cg w4 hown4 hgrow hat hlt4)
        have hba : Below (w2.setCell ⟨g2, 1, none⟩ (.int .i64 y)).heap.size (w2.setCell ⟨g2, 1, none⟩ (.int .i64 y)) ((w2.setCell ⟨g2, 1, none⟩ (.int .i64 y)).alloc (.cells #[.slice (some ⟨g2, 0, none⟩) n c2] 25)) := (Below.refl _ _).alloc (Nat.le_refl _) _
        have hgg : gg = g ∨ (w2.setCell ⟨g2, 1, none⟩ (.int .i64 y)).heap.size ≤ gg := by rw [hsz]; exact gg_at hat rfl
        have HN4 := Lib.hid (eo_push (R := fun _ => False) HOL.out.1 HOL.out.2.1 HOL.out.2.2 hul HU2A.out hba hown4 hgrow hgg (HO3.out.ls (bv := bp) (by omega)) (rowL_len x y n) (rowL_nums HX.out HY.out) (fun gb hg => by have := blk_eqE hg; have := HO3.out.base; exact ⟨by omega, .inr (by omega)⟩))
        rw [← HTK.out] at HN4
        have HBN := Lib.hid (below_grownE (g := g) ((HB.out.trans (HB3.out.mono hzr)).trans (hba.mono (by omega))) hgrow (Nat.le_refl _) hgb.1)
        clear hown4 hgrow hat hu1A HOL HU2A HO3 HB3
        go_wp2_with fail
        go_roundw
        case rel => exact ⟨i + 1, gg, cg, by omega, by go_num, rfl, HN4.out, HBN.out⟩
        case measure => simp [intOf]; omega
      · have e1 : rowL x y n = cstl x n := by
          unfold rowL
          exact List.set_eq_of_length_le (by rw [cstl_len]; omega)
        obtain ⟨w3, rfl⟩ : ∃ w3, w3 = w2 := ⟨_, rfl⟩
        have HO3 : Hid (Own wr.heap.size w3 g2 c2 (rowL x y n)) := by show Own _ _ _ _ _; rw [e1]; exact ho2
        have HB3 : Hid (Below wr.heap.size wr w3) := hb2
        have hz3 := HB3.out.size
        have hu1A := rowsKept HU1.out HB3.out
        have HU2A : Hid (∀ k, k < i → ∃ ai ci, us[k]? = some (.slice ai n ci) ∧ Ls w3 bp ai ((lnT args dir n i).getD k []) ∧ ∀ gb, blk ai ((lnT args dir n i).getD k []) = some gb → gb ≠ g ∧ (False ∨ w.heap.size ≤ gb)) := by
          show ∀ k, _
          intro k hk
          obtain ⟨ai, ci, h1, h2, h3⟩ := HU2.out k hk
          exact ⟨ai, ci, h1, h2.next HB3.out, h3⟩
        clear HU1 HU2 hx hy hy2' HB2 HO2 ho2 hb2 e1
        go_wp2_with (at_builtin; refine wpList_append_lies _ rfl _ _ _ rfl w.heap.size 25 i1 _ 1 24 Tryz.underlying39 hj1 hy0 hy1 hy2 rfl (by omega) (.slice (some ⟨g, 0, none⟩) i kg) i us rfl (hu1A.alloc _) ⟨w3.heap.size, 0, none⟩ 1 1 [.slice (some ⟨g2, 0, none⟩) n c2] rfl rfl (World.news_of_block (cs := #[.slice (some ⟨g2, 0, none⟩) n c2]) (t := 25) (fr := (0, 0)) (heap_alloc_new w3 _)) (by simp [Value.oneCell']) (by omega) (by unfold maxLen; omega) (by omega) (by simp; omega) (w3.heap.size + 1) (by simp) ?_; intro gg cg w4 hown4 hgrow hat hlt4)
        have hba : Below w3.heap.size w3 (w3.alloc (.cells #[.slice (some ⟨g2, 0, none⟩) n c2] 25)) := (Below.refl _ _).alloc (Nat.le_refl _) _
        have hgg : gg = g ∨ w3.heap.size ≤ gg := gg_at hat rfl
        have HN4 := Lib.hid (eo_push (R := fun _ => False) HOL.out.1 HOL.out.2.1 HOL.out.2.2 hul HU2A.out hba hown4 hgrow hgg (HO3.out.ls (bv := bp) (by omega)) (rowL_len x y n) (rowL_nums HX.out HY.out) (fun gb hg => by have := blk_eqE hg; have := HO3.out.base; exact ⟨by omega, .inr (by omega)⟩))
        rw [← HTK.out] at HN4
        have HBN := Lib.hid (below_grownE (g := g) ((HB.out.trans (HB3.out.mono hzr)).trans (hba.mono (by omega))) hgrow (Nat.le_refl _) hgb.1)
        clear hown4 hgrow hat hu1A HOL HU2A HO3 HB3
        go_wp2_with fail
        go_roundw
        case rel => exact ⟨i + 1, gg, cg, by omega, by go_num, rfl, HN4.out, HBN.out⟩
        case measure => simp [intOf]; omega
    · have hii : ¬ (i : Int) < (args.length : Int) := by omega
      obtain rfl : i = args.length := by omega
      go_wp2_with fail
      go_ret
      exact ⟨g, kg, rfl, HO.out, HB.out⟩

theorem At.oldsE {w : World} {a : Option Addr} {l : List Int} (h : At w a l) : ∀ b, a = some b → ∀ j u, (l.map (Value.int .i64))[j]? = some u → w.cell? (b.add j) = some u := by
  intro b hb j u hj
  rw [List.getElem?_map] at hj
  by_cases hl : l = []
  · rw [hl] at hj; simp at hj
  · obtain ⟨bb, off, h1, _, hc⟩ := h.resolve_left hl
    rw [h1] at hb; cases hb
    by_cases hjl : j < l.length
    · rw [List.getElem?_eq_getElem hjl] at hj
      simp at hj
      rw [Addr.add_lit, hc j hjl, List.getD_eq_getElem?_getD, List.getElem?_eq_getElem hjl]
      simp [hj]
    · rw [List.getElem?_eq_none (by omega)] at hj; simp at hj
set_option maxRecDepth 100000 in
set_option maxHeartbeats 1600000 in
theorem sOwnE (a : Option Addr) (ca n : Nat) (l : List Int) (w : World) (ha : At w a l) (hn : l.length = n) (h1 : 1 ≤ n) (h2 : n ≤ 1048576) :
    Calls Tryz.prog 79 #[.slice a n ca] w fun e w' => ∃ g c, e = .returned (.slice (some ⟨g, 0, none⟩) n c) ∧ Own w.heap.size w' g c l ∧ Below w.heap.size w w' := by
  subst hn
  obtain ⟨i0, hi, hz0, hz1, hz2⟩ := info_parts info64
  obtain ⟨b1, o1, rfl, hbl1, hc1⟩ := (ha.resolve_left (by intro e; rw [e] at h1; simp at h1))
  have hB0 := (Below.refl w.heap.size w).alloc (Nat.le_refl _) (.cells #[] 2)
  have hO0 := own_none w w.heap.size (Nat.le_refl _)
  have HN := Lib.hid (At.oldsE (w := w.alloc (.cells #[] 2)) (a := some ⟨b1, o1, none⟩) (l := l) (.inr ⟨b1, o1, rfl, Nat.lt_of_lt_of_le hbl1 hB0.size, fun k hk => (hB0.cell (p := ⟨b1, o1 + k, none⟩) hbl1).trans (hc1 k hk)⟩) _ rfl)
  have hone : Hid (∀ u ∈ l.map (Value.int .i64), u.oneCell' = true) := by
    show ∀ u ∈ _, _
    intro u hu
    obtain ⟨x, _, rfl⟩ := List.mem_map.1 hu
    rfl
  clear hc1 ha
  go_enter Tryz.func79, Tryz.ntmps79
  go_wp2_with (at_builtin; refine wpList_append_lies _ rfl _ _ _ rfl w.heap.size 2 i0 _ 1 8 Tryz.underlying25 hi hz0 hz1 hz2 rfl (by omega) (.slice (some ⟨w.heap.size, 0, none⟩) 0 0) 0 [] rfl hO0 ⟨b1, o1, none⟩ l.length ca (l.map (Value.int .i64)) rfl (by rw [List.length_map, Nat.mul_one]) HN.out hone.out (by omega) (by unfold maxLen; omega) (by omega) (by simp) (w.heap.size + 1) (by simp) ?_; intro g cc w1 hown1 hgrow hat hlt1)
  have hw2 : Below w.heap.size w w1 := hB0.grown hgrow (by simp) (by intro q hq; simp [Value.ownBlock] at hq; omega)
  have ho3 : Own w.heap.size w1 g cc l := by unfold Own; simpa using hown1
  clear hown1 hgrow hat
  go_wp2_with fail
  go_ret
  exact ⟨g, cc, by simp, ho3, hw2⟩

/-- column k of rows -/
def colL (k : Nat) (l : List (List Int)) : List Int := l.map fun v => v.getD k 0
theorem colL_take {k : Nat} {l : List (List Int)} {i : Nat} (h : i < l.length) : colL k (l.take (i + 1)) = colL k (l.take i) ++ [(l.getD i []).getD k 0] := by
  unfold colL
  rw [take_snocE h, List.map_append]; rfl
theorem colL_len (k : Nat) (l : List (List Int)) : (colL k l).length = l.length := by simp [colL]

set_option maxRecDepth 100000 in
set_option maxHeartbeats 3200000 in
theorem sColumnE (k n : Nat) (hk : k < n) (br : Nat) (R : Nat → Prop) (ae : Option Addr) (ce : Nat) (vs : List (List Int)) (w : World) (hE : En w br R n ae vs) (hvl : vs.length ≤ 1048576) :
    Calls Tryz.prog 60 #[.slice ae vs.length ce, .int .i64 k] w fun e w' => ∃ g cap, e = .returned (.slice (some ⟨g, 0, none⟩) vs.length cap) ∧ Own w.heap.size w' g cap (colL k vs) ∧ Below w.heap.size w w' := by
  obtain ⟨i0, hi, hz0, hz1, hz2⟩ := info_parts info64
  have hO0 := own_none w w.heap.size (Nat.le_refl _)
  have HOW0 : Hid (Own w.heap.size (w.alloc (.cells #[] 2)) w.heap.size 0 (colL k (vs.take 0))) := hO0
  have HBW0 : Hid (Below w.heap.size w (w.alloc (.cells #[] 2))) := (Below.refl _ _).alloc (Nat.le_refl _) _
  have HEN := Lib.hid hE
  clear hO0 hE
  go_enter Tryz.func60, Tryz.ntmps60
  go_wp2_with fail
  go_loopw [5, 6] (fun lv x wr => ∃ (i g cap : Nat), i ≤ vs.length ∧ x = .int .i64 i ∧ lv = .slice (some ⟨g, 0, none⟩) i cap ∧ Hid (Own w.heap.size wr g cap (colL k (vs.take i))) ∧ Hid (Below w.heap.size w wr)) (fun _ x _ => vs.length - (intOf x).toNat)
  case atStart => exact ⟨0, w.heap.size, 0, Nat.zero_le _, rfl, rfl, HOW0.out, HBW0.out⟩
  case round =>
    obtain ⟨i, g, cap, hi2, rfl, rfl, HOW, HBW⟩ := hrel
    clear HOW0 HBW0
    have hgb := HOW.out.base
    have hzr3 := HBW.out.size
    by_cases hlt : i < vs.length
    · have hii : (i : Int) < (vs.length : Int) := by omega
      have hkn : (k : Int) < (n : Int) := by omega
      obtain ⟨b7, o7, rfl, hbn7, hbw7, hall7⟩ := (HEN.out.next HBW.out).rows.resolve_left (by intro e; rw [e] at hlt; simp at hlt)
      obtain ⟨ai, ci, hcell, hls, _⟩ := hall7 i hlt
      have hl1 := HEN.out.len i hlt
      obtain ⟨b8, o8, rfl, hb8, hc8⟩ := hls.at_.resolve_left (by intro e; rw [e] at hl1; simp at hl1; omega)
      have hx := hc8 k (by omega)
      have HTK : Hid (colL k (vs.take (i + 1)) = colL k (vs.take i) ++ [(vs.getD i []).getD k 0]) := colL_take hlt
      have HXL : Hid ((colL k (vs.take i)).length = i) := by show _ = _; rw [colL_len, List.length_take]; omega
      have ho2 : wr.ownsRow w.heap.size 2 1 (.slice (some ⟨g, 0, none⟩) i cap) i ((colL k (vs.take i)).map (Value.int .i64)) := by
        have := HOW.out
        unfold Own at this
        rw [HXL.out] at this
        exact this
      clear hall7 hls hl1 hc8 HOW
      generalize (vs.getD i []).getD k 0 = x at *
      generalize colL k (vs.take i) = xs at *
      go_wp2_with (at_builtin; refine wpList_append_lies _ rfl _ _ _ rfl w.heap.size 2 i0 _ 1 8 Tryz.underlying25 hi hz0 hz1 hz2 rfl (by omega) (.slice (some ⟨g, 0, none⟩) i cap) i (xs.map (Value.int .i64)) rfl (ho2.alloc _) ⟨wr.heap.size, 0, none⟩ 1 1 [.int .i64 x] rfl rfl (World.news_of_block (cs := #[.int .i64 x]) (t := 2) (fr := (0, 0)) (heap_alloc_new wr _)) (by simp [Value.oneCell']) (by omega) (by unfold maxLen; omega) (by omega) (by simp; omega) (wr.heap.size + 1) (by simp) ?_; intro gg cc w4 hown4 hgrow hat hlt4)
      have hw4 : Below w.heap.size w w4 := below_grownE (g := g) (HBW.out.alloc hzr3 _) hgrow (Nat.le_refl _) hgb.1
      have HO4 : Hid (Own w.heap.size w4 gg cc (xs ++ [x])) := own_appended (by rw [HXL.out]; exact hown4)
      rw [← HTK.out] at HO4
      have HB4 := Lib.hid hw4
      clear hown4 hgrow hat ho2 hw4
      go_wp2_with fail
      go_roundw
      case rel => exact ⟨i + 1, gg, cc, by omega, by go_num, rfl, HO4.out, HB4.out⟩
      case measure => simp [intOf]; omega
    · have hii : ¬ (i : Int) < (vs.length : Int) := by omega
      obtain rfl : i = vs.length := by omega
      rw [List.take_length] at HOW
      go_wp2_with fail
      go_ret
      exact ⟨g, cap, rfl, HOW.out, HBW.out⟩

end Go.Proofs.YtldbhhocoolloaaGreat

namespace Go.Proofs.YtldbhhocoolloaaGreat
open Go.RowKit
set_option linter.unusedVariables false

/-- the rows lie where the run does not -/
theorem En.re {w : World} {br n : Nat} {R : Nat → Prop} {a : Option Addr} {vars : List (List Int)} (h : En w br R n a vars) {br' : Nat} (hb : w.heap.size ≤ br') : En w br' R n a vars := by
  refine ⟨?_, h.len, h.nums⟩
  rcases h.rows with h0 | ⟨b, off, h1, h2, h3, h4⟩
  · exact .inl h0
  · refine .inr ⟨b, off, h1, by omega, h3, fun i hi => ?_⟩
    obtain ⟨ai, ci, h5, h6, h7⟩ := h4 i hi
    exact ⟨ai, ci, h5, ⟨h6.at_, fun g hg => by have := h6.lt g hg; omega⟩, h7⟩
theorem Eo.lower {W : World} {L L' br n g kg k : Nat} {R : Nat → Prop} {vars : List (List Int)} (h : Eo W L' br R n g kg k vars) (hL : L ≤ L') : Eo W L br R n g kg k vars := by
  obtain ⟨vs, ⟨h0, h1⟩, h2⟩ := h.top
  refine ⟨⟨vs, ⟨h0, ?_⟩, fun i hi => ?_⟩, h.vl, h.len, h.nums⟩
  · rcases h1 with h1 | ⟨g', cap', cur, hv, hg, r⟩
    · exact .inl h1
    · exact .inr ⟨g', cap', cur, hv, by omega, r⟩
  · obtain ⟨ai, ci, h3, h4, h5⟩ := h2 i hi
    exact ⟨ai, ci, h3, h4, fun gb hg => ⟨(h5 gb hg).1, (h5 gb hg).2.imp id fun e => by omega⟩⟩
/-- what the model answers for series -/
def EvS (n m : Nat) (w : World) (r : Rl (List Int)) (e : Ending) (w' : World) : Prop :=
  Below w.heap.size w w' ∧ ((r.c = 0 ∧ ∃ g kg L br, e = .returned (.tuple #[.slice (some ⟨g, 0, none⟩) m kg, .int .i64 0]) ∧ w.heap.size ≤ br ∧ br < L ∧ Eo w' L br (fun _ => False) n g kg m r.l) ∨ (¬ r.c = 0 ∧ ∃ g, e = .returned (.tuple #[.slice (some ⟨g, 0, none⟩) 0 0, .int .i64 r.c])))

set_option maxRecDepth 100000 in
set_option maxHeartbeats 12800000 in
theorem sEval3 (n : Nat) (hn1 : 1 ≤ n) (hn13 : n ≤ 13) (fs : List Fn) (bp op : Nat) (ap : Option Addr) (capp : Nat) (j : Nat) (br0 : Nat) (R : Nat → Prop) (ae : Option Addr) (ce : Nat) (vars : List (List Int)) (w : World)
    (hp : w.cell? ⟨bp, op, none⟩ = some (.slice ap fs.length capp)) (hpb : progB fs = true) (hj : j < fs.length) (hfl : fs.length ≤ 1048576) (hP : Pat w 0 w.heap.size fs ap) (hE : En w br0 R n ae vars) (hRb : ∀ g, R g → g < w.heap.size) (hal : (vars.length : Int) = (fs.getD j noFn).params) :
    Calls Tryz.prog 50 #[.pointer (some ⟨bp, op, none⟩), .int .i64 j, .slice ae vars.length ce, .int .i64 n] w (EvS n (fs.getD j noFn).outs.len w (lisE (sA n) (evE (sA n) fs 3001) (fs.getD j noFn).outs vars 0 (fs.getD j noFn).outs.len)) := by
  obtain ⟨g1, g2, g3⟩ := fn_parts (progB_fn hpb hj)
  obtain ⟨i1, hj1, hy0, hy1, hy2⟩ := info_parts infoRowE
  have hbpw := cell_lt hp
  have hji : (j : Int) < (fs.length : Int) := by omega
  have hargs : vars.length ≤ 12 := by omega
  obtain ⟨wR, hwR⟩ : ∃ wR, w.alloc (.cells #[.pointer (some ⟨bp, op, none⟩), .int .i64 n, .int .i64 0, .int .i64 0] 125) = wR := ⟨_, rfl⟩
  have zR : wR.heap.size = w.heap.size + 1 := by rw [← hwR]; simp
  have bR : Below w.heap.size w wR := by rw [← hwR]; exact (Below.refl _ _).alloc (Nat.le_refl _) _
  have RR : RnAt wR w.heap.size bp op n 0 0 := ⟨by rw [← hwR]; simp [go_sem], by rw [← hwR]; simp [go_sem], by rw [← hwR]; simp [go_sem], by rw [← hwR]; simp [go_sem], fun o => by rw [← hwR]; simp [go_sem]⟩
  obtain ⟨bf, of, rfl, hbB, hall⟩ := hP.resolve_left (by intro e; rw [e] at hj; simp at hj)
  obtain ⟨hrr, af, cf, f0, f1, f2, hFo⟩ := hall j hj
  have hER := (hE.re (br' := w.heap.size) (Nat.le_refl _)).next bR
  have hpR := (bR.cell (p := ⟨bp, op, none⟩) hbpw).trans hp
  have f2R := (bR.cell (p := ⟨bf, of + j * 3 + 2, none⟩) (by show bf < _; omega)).trans f2
  have HC := Lib.hid ((sEvals (n := n) (ap := some ⟨bf, of, none⟩) (capp := capp) (br := w.heap.size) (bp := bp) (op := op) (B := w.heap.size) (Nat.le_refl _) hbpw hn1 hn13 (fun i hi => progB_fn hpb hi) hfl 3001).2 R j (fs.getD j noFn).outs af cf bf (of + j * 3) ae ce vars 0 0 wR (by omega) (by omega) (by omega) (by rw [hal]; exact g3) RR hpR (hP.below bR) f2R hbB.2 (hFo.agree (fun k _ h2 => bR.block k h2)) (by omega) hER (fun q hq => Nat.lt_of_lt_of_le (hRb q hq) bR.size) (by omega))
  rw [lisX_zero] at HC
  have HOL12 : Hid ((fs.getD j noFn).outs.len ≤ 12) := g2.2
  clear hall hrr f0 f1 f2 hFo hP hE hER f2R g1 g2 g3 RR hal
  generalize (fs.getD j noFn).outs = O at *
  have HLE : Hid ((lisE (sA n) (evE (sA n) fs 3001) O vars 0 O.len).c = 0 → (lisE (sA n) (evE (sA n) fs 3001) O vars 0 O.len).l.length = O.len) := lisE_len O.len
  generalize lisE (sA n) (evE (sA n) fs 3001) O vars 0 O.len = X at *
  have HZR := Lib.hid zR
  clear zR
  go_enter Tryz.func50, Tryz.ntmps50
  go_wp2_with fail
  clear hwR hpR
  refine HC.out.mono ?_; rintro e w2 ⟨k2, r2, g2, kg2, vs, rfl, ho2, hv2⟩
  have zR := HZR.out
  have c3 := r2.c3
  have z2 := k2.size
  have HE2 := Lib.hid ho2
  have HV2 := Lib.hid hv2
  have HB2 : Hid (Below w.heap.size w w2) := bR.trans (b := wR) ⟨k2.os, k2.tape, k2.output, k2.size, fun q hq => k2.block q (by omega) (by omega)⟩
  clear HC ho2 hv2 k2
  by_cases hc : X.c = 0
  rotate_left
  · have hcb : (X.c != 0) = true := by simp [hc]
    have HNC : Hid (¬ X.c = 0) := hc
    clear hc
    go_wp2_with fail
    go_region_held3 (fun w' => w'.cell? ⟨w.heap.size, 3, none⟩ = some (.int .i64 X.c)) (first | with_reducible exact c3 | go_keep) (fail)
    all_goals
      go_wp2_with fail
      go_ret2
      exact ⟨HB2.out.trans (b := w2) (by first | exact (((Below.refl w2.heap.size w2).drew).alloc (Nat.le_refl _) _).mono (by omega) | exact (((Below.refl w2.heap.size w2).alloc (Nat.le_refl _) _).drew).mono (by omega)), .inr ⟨HNC.out, _, rfl⟩⟩
  · have hcb : (X.c != 0) = false := by rw [hc]; rfl
    have hvl := HE2.out.vl
    have HVL := Lib.hid hvl
    have HEN := Lib.hid (HE2.out.en (by omega))
    have HO0 : Hid (Eo (w2.alloc (.cells #[] 25)) w2.heap.size w.heap.size (fun _ => False) n w2.heap.size 0 0 (vs.take 0)) := eo_start w2 _ n _
    have HB0 : Hid (Below w2.heap.size w2 (w2.alloc (.cells #[] 25))) := (Below.refl _ _).alloc (Nat.le_refl _) _
    have HX0 := Lib.hid hc
    have hol := HOL12.out
    clear HE2 hc hvl
    go_wp2_with fail
    obtain ⟨wB, rfl⟩ : ∃ wB, wB = wR := ⟨_, rfl⟩
    go_loopw [12, 13] (fun lv x wr => ∃ (i g kg : Nat), i ≤ O.len ∧ x = .int .i64 i ∧ lv = .slice (some ⟨g, 0, none⟩) i kg ∧ Hid (Eo wr w2.heap.size w.heap.size (fun _ => False) n g kg i (vs.take i)) ∧ Hid (Below w2.heap.size w2 wr)) (fun _ x _ => O.len - (intOf x).toNat)
    case atStart => exact ⟨0, w2.heap.size, 0, Nat.zero_le _, rfl, rfl, HO0.out, HB0.out⟩
    case round =>
      obtain ⟨i, g, kg, hi2, rfl, rfl, HO, HB⟩ := hrel
      clear HO0 HB0
      have hgb := HO.out.base
      have hzr := HB.out.size
      by_cases hlt : i < O.len
      · have hii : (i : Int) < (O.len : Int) := by omega
        have hiv : i < vs.length := by rw [HVL.out]; exact hlt
        obtain ⟨b7, o7, e7, hbn7, hbw7, hall7⟩ := (HEN.out.next HB.out).rows.resolve_left (by intro e; rw [e] at hiv; simp at hiv)
        cases e7
        obtain ⟨ai, ci, hcell, hls, _⟩ := hall7 i hiv
        rw [Nat.zero_add] at hcell
        have hl1 := HEN.out.len i hiv
        have HSO := Lib.hid (sOwnE ai ci n (vs.getD i []) wr hls.at_ hl1 hn1 (by omega))
        have HRN := Lib.hid (HEN.out.nums i hiv)
        have HTK : Hid (vs.take (i + 1) = vs.take i ++ [vs.getD i []]) := take_snocE hiv
        obtain ⟨us, hu1, hu2⟩ := HO.out.top
        have hul : us.length = i := by have := hu1.1; omega
        have HU1 := Lib.hid hu1
        have HU2 := Lib.hid hu2
        have HOL := Lib.hid (And.intro HO.out.vl (And.intro HO.out.len HO.out.nums))
        have HL1 := Lib.hid hl1
        clear hu1 hu2 HO hall7 hls hl1
        generalize vs.getD i [] = row at *
        go_wp2_with fail
        refine HSO.out.mono ?_; rintro e w3 ⟨g3, c3, rfl, ho3, hb3⟩
        have hg3 := ho3.base
        have HO3 := Lib.hid ho3
        have HB3 := Lib.hid hb3
        have hz3 := hb3.size
        have hu1A := rowsKept HU1.out hb3
        have HU2A : Hid (∀ k, k < i → ∃ ai ci, us[k]? = some (.slice ai n ci) ∧ Ls w3 w.heap.size ai ((vs.take i).getD k []) ∧ ∀ gb, blk ai ((vs.take i).getD k []) = some gb → gb ≠ g ∧ (False ∨ w2.heap.size ≤ gb)) := by
          show ∀ k, _
          intro k hk
          obtain ⟨ai, ci, h1, h2, h3⟩ := HU2.out k hk
          exact ⟨ai, ci, h1, h2.next hb3, h3⟩
        clear HU1 HU2 ho3 hb3 hcell HSO
        go_wp2_with (at_builtin; refine wpList_append_lies _ rfl _ _ _ rfl w2.heap.size 25 i1 _ 1 24 Tryz.underlying39 hj1 hy0 hy1 hy2 rfl (by omega) (.slice (some ⟨g, 0, none⟩) i kg) i us rfl (hu1A.alloc _) ⟨w3.heap.size, 0, none⟩ 1 1 [.slice (some ⟨g3, 0, none⟩) n c3] rfl rfl (World.news_of_block (cs := #[.slice (some ⟨g3, 0, none⟩) n c3]) (t := 25) (fr := (0, 0)) (heap_alloc_new w3 _)) (by simp [Value.oneCell']) (by omega) (by unfold maxLen; omega) (by omega) (by simp; omega) (w3.heap.size + 1) (by simp) ?_; intro gg cg w4 hown4 hgrow hat hlt4)
        have hba : Below w3.heap.size w3 (w3.alloc (.cells #[.slice (some ⟨g3, 0, none⟩) n c3] 25)) := (Below.refl _ _).alloc (Nat.le_refl _) _
        have hgg : gg = g ∨ w3.heap.size ≤ gg := gg_at hat rfl
        have HN4 := Lib.hid (eo_push (R := fun _ => False) HOL.out.1 HOL.out.2.1 HOL.out.2.2 hul HU2A.out hba hown4 hgrow hgg (HO3.out.ls (bv := w.heap.size) (by omega)) HL1.out HRN.out (fun gb hg => by have := blk_eqE hg; exact ⟨by omega, .inr (by omega)⟩))
        rw [← HTK.out] at HN4
        have HBN := Lib.hid (below_grownE (g := g) ((HB.out.trans (HB3.out.mono hzr)).trans (hba.mono (by omega))) hgrow (Nat.le_refl _) hgb.1)
        clear hown4 hgrow hat hu1A HOL HU2A HO3 HB3
        go_wp2_with fail
        go_roundw
        case rel => exact ⟨i + 1, gg, cg, by omega, by go_num, rfl, HN4.out, HBN.out⟩
        case measure => simp [intOf]; omega
      · have hii : ¬ (i : Int) < (O.len : Int) := by omega
        obtain rfl : i = O.len := by omega
        have HF : Hid (Eo wr w2.heap.size w.heap.size (fun _ => False) n g kg O.len X.l) := by
          have := HO.out
          rw [List.take_of_length_le (by rw [HVL.out]; exact Nat.le_refl _), HV2.out HX0.out] at this
          exact this
        clear HO
        go_wp2_with fail
        go_ret2
        have hz2 := HB2.out.size
        exact ⟨HB2.out.trans (b := w2) (HB.out.mono hz2), .inl ⟨HX0.out, g, kg, w2.heap.size, w.heap.size, rfl, Nat.le_refl _, by omega, HF.out⟩⟩

end Go.Proofs.YtldbhhocoolloaaGreat

namespace Go.Proofs.YtldbhhocoolloaaGreat
open Go.RowKit
set_option linter.unusedVariables false

/-- the code for a place and a direction -/
def drC (fs : List Fn) (f : Int) (args dir : List Int) : Int := if plC fs f args = 0 then (if areB dir (fs.getD f.toNat noFn).params = true then 0 else 2) else plC fs f args
/-- what one knows of a place -/
theorem plC_known {fs : List Fn} {f : Int} {args : List Int} (hc : plC fs f args = 0) : progB fs = true ∧ (0 ≤ f ∧ f < (fs.length : Int)) ∧ areB args (fs.getD f.toNat noFn).params = true := by
  unfold plC at hc
  by_cases hpb : progB fs = true
  · rw [if_pos hpb] at hc
    by_cases h2 : 0 ≤ f ∧ f < (fs.length : Int)
    · rw [if_pos h2] at hc
      by_cases h3 : areB args (fs.getD f.toNat noFn).params = true
      · exact ⟨hpb, h2, h3⟩
      · rw [if_neg h3] at hc; cases hc
    · rw [if_neg h2] at hc; cases hc
  · rw [if_neg hpb] at hc; cases hc
theorem areB_ln {l : List Int} {n : Int} (h : areB l n = true) : (l.length : Int) = n := by unfold areB at h; rw [Bool.and_eq_true] at h; exact of_decide_eq_true h.1
theorem areB_nm {l : List Int} {n : Int} (h : areB l n = true) : Nums l := by unfold areB at h; rw [Bool.and_eq_true] at h; exact okNums_nums h.2
set_option maxRecDepth 100000 in
set_option maxHeartbeats 3200000 in
theorem sAsked3 (fs : List Fn) (bp op : Nat) (ap : Option Addr) (capp : Nat) (f : Int) (aa da : Option Addr) (ca cd : Nat) (args dir : List Int) (w : World)
    (hp : w.cell? ⟨bp, op, none⟩ = some (.slice ap fs.length capp)) (hP : Pat w 0 w.heap.size fs ap) (hsz : pgSize fs ≤ 1048576) (hA : At w aa args) (hal : args.length ≤ 1048576) (hD : At w da dir) (hdl : dir.length ≤ 1048576) :
    Calls Tryz.prog 58 #[.pointer (some ⟨bp, op, none⟩), .int .i64 f, .slice aa args.length ca, .slice da dir.length cd] w (Quiet (.int .i64 (drC fs f args dir)) w) := by
  have HA := Lib.hid (sArgs fs bp op ap capp f aa ca args w hp hP hsz hA hal)
  have HN := fun q => Lib.hid (sNumbers da cd dir (w.drewN q) (hD.drewN q) (by omega))
  by_cases h0 : plC fs f args = 0
  · obtain ⟨k1, k2, k3⟩ := plC_known h0
    have HDR : Hid (drC fs f args dir = if areB dir (fs.getD f.toNat noFn).params = true then 0 else 2) := if_pos h0
    rw [h0] at HA
    have hal2 := areB_ln k3
    generalize drC fs f args dir = pc at *
    generalize (fs.getD f.toNat noFn).params = pm at *
    clear k1 k2 k3 hP hA hD h0
    by_cases hl : (dir.length : Int) = (args.length : Int)
    · have hlb : ((dir.length : Int) != (args.length : Int)) = false := by rw [hl]; simp
      have HAR : Hid (areB dir pm = okNums dir) := areB_of (by omega)
      clear hl hal2
      cases hn : okNums dir with
      | true =>
        rw [hn] at HN HAR
        have HP0 : Hid (pc = 0) := by show _ = _; rw [HDR.out, HAR.out]; rfl
        clear HDR HAR
        go_enter Tryz.func58, Tryz.ntmps58
        go_wp2_with fail
        refine HA.out.mono ?_; rintro e w1 ⟨rfl, q, rfl⟩
        go_wp2_with fail
        refine (HN q).out.mono ?_; rintro e w1 ⟨rfl, rfl⟩
        go_wp2_with fail
        go_ret
        exact ⟨ret_int HP0.out.symm, q, rfl⟩
      | false =>
        rw [hn] at HN HAR
        have HP0 : Hid (pc = 2) := by show _ = _; rw [HDR.out, HAR.out]; rfl
        clear HDR HAR
        go_enter Tryz.func58, Tryz.ntmps58
        go_wp2_with fail
        refine HA.out.mono ?_; rintro e w1 ⟨rfl, q, rfl⟩
        go_wp2_with fail
        refine (HN q).out.mono ?_; rintro e w1 ⟨rfl, rfl⟩
        go_wp2_with fail
        go_ret
        exact ⟨ret_int HP0.out.symm, q, rfl⟩
    · have hlb : ((dir.length : Int) != (args.length : Int)) = true := by simp [hl]
      have HP0 : Hid (pc = 2) := by
        show _ = _
        rw [HDR.out]
        have : ¬ areB dir pm = true := fun h => by have := areB_ln h; omega
        rw [if_neg this]
      clear HDR HN hl hal2
      go_enter Tryz.func58, Tryz.ntmps58
      go_wp2_with fail
      refine HA.out.mono ?_; rintro e w1 ⟨rfl, q, rfl⟩
      go_wp2_with fail
      go_ret
      exact ⟨ret_int HP0.out.symm, q, rfl⟩
  · have HDR : Hid (drC fs f args dir = plC fs f args) := if_neg h0
    have hbf : (plC fs f args == 0) = false := by simp [h0]
    rw [← HDR.out] at HA hbf
    clear HDR HN
    generalize drC fs f args dir = pc at *
    go_enter Tryz.func58, Tryz.ntmps58
    go_wp2_with fail
    refine HA.out.mono ?_; rintro e w1 ⟨rfl, q, rfl⟩
    go_wp2_with fail
    go_ret
    exact ⟨rfl, q, rfl⟩

theorem drC_known {fs : List Fn} {f : Int} {args dir : List Int} (h : drC fs f args dir = 0) : plC fs f args = 0 ∧ areB dir (fs.getD f.toNat noFn).params = true := by
  unfold drC at h
  by_cases h0 : plC fs f args = 0
  · rw [if_pos h0] at h
    by_cases h1 : areB dir (fs.getD f.toNat noFn).params = true
    · exact ⟨h0, h1⟩
    · rw [if_neg h1] at h; cases h
  · rw [if_neg h0] at h; exact absurd h h0

end Go.Proofs.YtldbhhocoolloaaGreat
