/- The program's evaluation with numbers: what it keeps and answers; lists of expressions. Lists of pairs: where they lie; blocks of the call's own. The program's evaluation with pairs: what it keeps and answers; lists of expressions. -/
import Derived.Deep.RegionWith
import Derived.Deep.RegionLawGrows
import Derived.Deep.RegionHeld3
import Derived.Test.YtoedccgiahegnaaGreatDa
import Derived.Test.YtoedccgiahegnaaGreatNfn
import Derived.Test.YtoedccgiahegnaaGreatCkr
namespace Go.Proofs.YtoedccgiahegnaaGreat
open Go.RowKit
set_option linter.unusedVariables false

theorem Kp.alloc {S : Nat → Prop} {w w' : World} (h : Kp S w w') (o : Obj) : Kp S w (w'.alloc o) := by
  have hb := (Below.refl w'.heap.size w').alloc (Nat.le_refl _) o
  exact h.trans (Kp.of_below hb)
theorem Kp.newBlock {S : Nat → Prop} {w w' : World} (h : Kp S w w') {p : Addr} (hp : w.heap.size ≤ p.block) (v : Value) : Kp S w (w'.setCell p v) :=
  ⟨h.os, h.tape, h.output, by simpa using h.size, fun i hi hn => (Below.heap_setCell _ _ _ _ (by omega)).trans (h.block i hi hn)⟩
theorem Kp.more {S : Nat → Prop} {w w' w2 : World} (h : Kp S w w') (hb : Below w'.heap.size w' w2) : Kp S w w2 := h.trans (Kp.of_below hb)
/-- where the evaluation keeps its fields -/
structure EvAt (w : World) (bv : Nat) (ap : Option Addr) (fl capp s : Nat) : Prop where
  c0 : w.cell? ⟨bv, 0, none⟩ = some ofN
  c1 : w.cell? ⟨bv, 1, none⟩ = some (.slice ap fl capp)
  c2 : w.cell? ⟨bv, 2, none⟩ = some (.int .i64 s)
  fz : ∀ o, w.frozen? ⟨bv, o, none⟩ = false
theorem EvAt.next {w w' : World} {bv : Nat} {ap : Option Addr} {fl capp s : Nat} (h : EvAt w bv ap fl capp s) (hb : Below w.heap.size w w') : EvAt w' bv ap fl capp s := by
  have hl := cell_lt h.c0
  exact ⟨(hb.cell (p := ⟨bv, 0, none⟩) hl).trans h.c0, (hb.cell (p := ⟨bv, 1, none⟩) hl).trans h.c1, (hb.cell (p := ⟨bv, 2, none⟩) hl).trans h.c2, fun o => (hb.frozen (p := ⟨bv, o, none⟩) hl).trans (h.fz o)⟩
theorem EvAt.other {w : World} {bv : Nat} {ap : Option Addr} {fl capp s : Nat} (h : EvAt w bv ap fl capp s) {p : Addr} (hp : p.block ≠ bv) (v : Value) : EvAt (w.setCell p v) bv ap fl capp s := by
  have e : ∀ o, (w.setCell p v).cell? ⟨bv, o, none⟩ = w.cell? ⟨bv, o, none⟩ := fun o => World.cell?_setCell_other _ _ _ _ (by intro e; apply hp; rw [e])
  exact ⟨(e 0).trans h.c0, (e 1).trans h.c1, (e 2).trans h.c2, fun o => (World.frozen?_setCell _ _ _ _).trans (h.fz o)⟩
/-- a list that lies elsewhere -/
structure Ls (w : World) (bv : Nat) (a : Option Addr) (l : List Int) : Prop where
  at_ : At w a l
  ne : ∀ g, blk a l = some g → g ≠ bv
theorem Ls.keep {w w' : World} {bv : Nat} {a : Option Addr} {l : List Int} (h : Ls w bv a l) (k : Kp (fun b => b = bv) w w') : Ls w' bv a l := by
  refine ⟨?_, h.ne⟩
  by_cases hl : l = []
  · exact .inl hl
  · obtain ⟨b, off, rfl, hb, hc⟩ := h.at_.resolve_left hl
    have hne : ¬ b = bv := h.ne b (by simp [blk, hl])
    exact .inr ⟨b, off, rfl, Nat.lt_of_lt_of_le hb k.size, fun i hi => k.cell (hc i hi) hne⟩
theorem blk_eqE {r : Nat} {l : List Int} {g : Nat} (h : blk (some ⟨r, 0, none⟩) l = some g) : g = r := by
  unfold blk at h
  split at h
  · cases h
  · simpa using h.symm
theorem Own.ls {L : Nat} {w : World} {g cap bv : Nat} {l : List Int} (h : Own L w g cap l) (hb : bv < L) : Ls w bv (some ⟨g, 0, none⟩) l :=
  ⟨h.at, fun g' hg => by have := h.base; have e := blk_eqE hg; omega⟩
theorem Own.keepE {L : Nat} {w w' : World} {g cap bv : Nat} {l : List Int} (h : Own L w g cap l) (k : Kp (fun b => b = bv) w w') (hb : g ≠ bv) : Own L w' g cap l :=
  OwR.keep h.owr k (fun p hp => by cases hp; exact hb)
theorem Pat.keepE {w w' : World} {B bv : Nat} {fs : List Fn} {ap : Option Addr} (h : Pat w 0 B fs ap) (k : Kp (fun b => b = bv) w w') (hB : B ≤ bv) (hw : bv < w.heap.size) : Pat w' 0 B fs ap := h.agree (fun i _ h2 => k.block i (by omega) (by omega))
theorem Fat.keepE {w w' : World} {B bv : Nat} {f : Fo} {a : Option Addr} (h : Fat w 0 B f a) (k : Kp (fun b => b = bv) w w') (hB : B ≤ bv) (hw : bv < w.heap.size) : Fat w' 0 B f a := h.agree (fun i _ h2 => k.block i (by omega) (by omega))

/-- a value is answered -/
def VRes (bv : Nat) (ap : Option Addr) (fl capp : Nat) (w : World) (r : Rv Int) (e : Ending) (w' : World) : Prop :=
  Kp (fun b => b = bv) w w' ∧ EvAt w' bv ap fl capp r.s ∧ ∃ v, e = .returned (.tuple #[.int .i64 v, .int .i64 r.c]) ∧ (r.c = 0 → v = r.v ∧ 0 ≤ v ∧ v < 1000003)
/-- a list of values is answered -/
def LRes (bv : Nat) (ap : Option Addr) (fl capp : Nat) (w : World) (r : Rl Int) (e : Ending) (w' : World) : Prop :=
  Kp (fun b => b = bv) w w' ∧ EvAt w' bv ap fl capp r.s ∧ ((r.c = 0 ∧ ∃ g, e = .returned (.tuple #[.slice (some ⟨g, 0, none⟩) r.l.length r.l.length, .int .i64 0]) ∧ Own w.heap.size w' g r.l.length r.l ∧ Nums r.l) ∨ (¬ r.c = 0 ∧ e = .returned (.tuple #[.slice none 0 0, .int .i64 r.c])))
theorem VRes.from {bv : Nat} {ap : Option Addr} {fl capp : Nat} {w w1 : World} {r : Rv Int} {e : Ending} {w' : World} (h : VRes bv ap fl capp w1 r e w') (k : Kp (fun b => b = bv) w w1) : VRes bv ap fl capp w r e w' := ⟨k.trans h.1, h.2⟩

/-- what an evaluation with so much fuel does at a node -/
def PV (fs : List Fn) (ap : Option Addr) (capp bv B f : Nat) : Prop :=
  ∀ (fi : Nat) (k n p c : Int) (ks : Fo) (a : Option Addr) (cap : Nat) (av : Option Addr) (cav : Nat) (vars : List Int) (s : Nat) (w : World),
    3000 < f + s → s ≤ 3000 → fi ≤ fs.length → nodeB fs (vars.length : Int) (fi : Int) k n p c ks.len = true → treeB fs (fi : Int) ks (vars.length : Int) k 0 = true → EvAt w bv ap fs.length capp s → Pat w 0 B fs ap → Fat w 0 B ks a → ks.len ≤ maxLen → Ls w bv av vars → Nums vars → vars.length ≤ 412 + s → vars.length ≤ cav → cav ≤ 9223372036854775807 →
    Calls Tryz.prog 96 #[.pointer (some ⟨bv, 0, none⟩), .agg #[.int .i64 k, .int .i64 n, .int .i64 p, .int .i64 c, .slice a ks.len cap], .slice av vars.length cav] w (VRes bv ap fs.length capp w (evE nA fs f k n p c ks vars s))
def PL (fs : List Fn) (ap : Option Addr) (capp bv B f : Nat) : Prop :=
  ∀ (fi : Nat) (q : Int) (o : Fo) (ao : Option Addr) (cao : Nat) (av : Option Addr) (cav : Nat) (vars : List Int) (s : Nat) (w : World),
    3000 < f + s → s ≤ 3000 → fi ≤ fs.length → q ≠ 9 → treeB fs (fi : Int) o (vars.length : Int) q 0 = true → EvAt w bv ap fs.length capp s → Pat w 0 B fs ap → Fat w 0 B o ao → o.len ≤ 1048576 → Ls w bv av vars → Nums vars → vars.length ≤ 412 + s → vars.length ≤ cav → cav ≤ 9223372036854775807 →
    Calls Tryz.prog 73 #[.pointer (some ⟨bv, 0, none⟩), .slice ao o.len cao, .slice av vars.length cav] w (LRes bv ap fs.length capp w (lisE nA (evE nA fs f) o vars s o.len))

theorem nums_snoc {l : List Int} {x : Int} (h : Nums l) (hx : 0 ≤ x ∧ x < 1000003) : Nums (l ++ [x]) := by
  intro n hn
  rcases List.mem_append.1 hn with hn | hn
  · exact h n hn
  · simp at hn; subst hn; exact hx

set_option maxRecDepth 100000 in
set_option maxHeartbeats 6400000 in
theorem iValues {fs : List Fn} {ap : Option Addr} {capp bv B f : Nat} (hBv : B ≤ bv) (hV : PV fs ap capp bv B f) : PL fs ap capp bv B f := by
  intro fi q o ao cao av cav vars s w hf hs hfi hq ht hE hP hF hol hL hN hvl hcv hcv2
  obtain ⟨i0, hi, hz0, hz1, hz2⟩ := info_parts info64
  have hbw := cell_lt hE.c0
  have HE := Lib.hid hE
  have HP := Lib.hid hP
  have HF := Lib.hid hF
  have HL := Lib.hid hL
  clear hE hP hF hL
  go_enter Tryz.func73, Tryz.ntmps73
  go_wp2_with (refine wpList_make_full _ rfl _ _ 25 rfl w.heap.size 2 i0 (.int .i64 0) 1 Tryz.underlying25 hi hz0 hz1 .i64 .i64 _ _ o.len rfl rfl rfl rfl ?c2 ?c3 (Nat.le_refl _) ?_)
  case c2 => rw [hz2]; omega
  case c3 => unfold maxLen; omega
  intro w1 ho1 hg1
  have hb1 := (Below.refl w.heap.size w).grown hg1 (Nat.le_refl _) (by intro k hk; cases hk)
  have HO0 : Hid (Own w.heap.size w1 w.heap.size o.len (fillz o.len ([] : List Int))) := made_own ho1
  have HK0 : Hid (Kp (fun b => b = bv) w w1) := Kp.of_below hb1
  have HE0 : Hid (EvAt w1 bv ap fs.length capp s) := HE.out.next hb1
  clear ho1 hg1 hi hz0 hz1 hz2 hb1 HE
  go_wp2_with fail
  go_loopw [18] (fun x wr => ∃ i : Nat, i ≤ o.len ∧ x = .int .i64 i ∧ Hid ((lisE nA (evE nA fs f) o vars s i).c = 0) ∧ Hid (Own w.heap.size wr w.heap.size o.len (fillz o.len (lisE nA (evE nA fs f) o vars s i).l)) ∧ Hid (Nums (lisE nA (evE nA fs f) o vars s i).l) ∧ Hid (Kp (fun b => b = bv) w wr) ∧ Hid (EvAt wr bv ap fs.length capp (lisE nA (evE nA fs f) o vars s i).s)) (fun x _ => o.len - (intOf x).toNat)
  case atStart => exact ⟨0, Nat.zero_le _, rfl, rfl, HO0.out, (fun n hn => by cases hn), HK0.out, HE0.out⟩
  case round =>
    obtain ⟨i, hi, rfl, HC, HO, HN, HK, HE⟩ := hrel
    clear HO0 HK0 HE0
    by_cases hlt : i < o.len
    · have hii : (i : Int) < (o.len : Int) := by omega
      have hFw := HF.out.keepE HK.out hBv hbw
      obtain ⟨b, off, rfl, hbB⟩ := hFw.blk (by omega)
      obtain ⟨k, n, p, c, kk, a', cap', hd, hR, hkl, x0, x1, x2, x3, x4, hFk⟩ := Fat.node hFw hlt
      obtain ⟨v1, v2⟩ := treeB_at o 0 i ht hd
      have hm : more q (0 + i) = 0 := by unfold more; rw [if_neg (fun h => hq h.1)]
      rw [hm, Int.add_zero] at v1 v2
      have hst := lisE_stp (A := nA) (evE_stp (A := nA) fs f s hf) o vars s (Nat.le_refl _) hs i
      have hll := lisE_len _ HC.out
      obtain ⟨w3, hw3⟩ : ∃ w3, w3 = wr.alloc (.cells #[.int .i64 k, .int .i64 n, .int .i64 p, .int .i64 c, .slice a' kk.len cap'] 137) := ⟨_, rfl⟩
      have b3 : Below wr.heap.size wr w3 := by rw [hw3]; exact (Below.refl _ _).alloc (Nat.le_refl _) _
      have k3 := HK.out.more b3
      have hzr := HK.out.size
      have hz3 := b3.size
      obtain ⟨rr, hrr⟩ : ∃ rr, rr = evE nA fs f k n p c kk vars (lisE nA (evE nA fs f) o vars s i).s := ⟨_, rfl⟩
      have HCV := Lib.hid (hV fi k n p c kk a' cap' av cav vars (lisE nA (evE nA fs f) o vars s i).s w3 (by omega) hst.2 hfi v1 v2 (HE.out.next b3) (HP.out.keepE k3 hBv hbw) (hFk.agree (fun j _ h2 => b3.block j (by omega))) hkl (HL.out.keep k3) hN (by omega) hcv hcv2)
      rw [← hrr] at HCV
      have HA : Hid (atE nA (evE nA fs f) o i vars (lisE nA (evE nA fs f) o vars s i).s = rr) := by show _ = _; rw [atE_eq hd, hrr]
      have hof := HO.out.kept b3 HO.out.base.2
      clear hrr hFw hFk v1 v2 hR hkl
      go_wp2_with fail
      rw [← hw3]
      clear hw3 x0 x1 x2 x3 x4
      refine HCV.out.mono ?_; rintro e w4 ⟨k4, e4, v, rfl, hv⟩
      have hof4 := hof.keepE k4 (by omega)
      have k5 := k3.trans k4
      by_cases hc : rr.c = 0
      · obtain ⟨rfl, hv0, hv1⟩ := hv hc
        have hbf : (rr.c != 0) = false := by rw [hc]; rfl
        have hlen : (fillz o.len (lisE nA (evE nA fs f) o vars s i).l).length = o.len := fillz_len (by omega)
        have hcs := hof4.cellAt i (by rw [hlen]; exact hlt)
        have hfr := hof4.frz i
        have hset := hof4.set i rr.v
        have hs2 : (fillz o.len (lisE nA (evE nA fs f) o vars s i).l).set i rr.v = fillz o.len ((lisE nA (evE nA fs f) o vars s i).l ++ [rr.v]) := by
          have := fillz_set (n := o.len) (xs := (lisE nA (evE nA fs f) o vars s i).l) (by omega) rr.v
          rw [hll] at this; exact this
        have HST : Hid (lisE nA (evE nA fs f) o vars s (i + 1) = ⟨(lisE nA (evE nA fs f) o vars s i).l ++ [rr.v], rr.s, rr.c⟩) := by show _ = _; rw [lisE_step HC.out, HA.out]
        have HO2 : Hid (Own w.heap.size (w4.setCell ⟨w.heap.size, i, none⟩ (.int .i64 rr.v)) w.heap.size o.len (fillz o.len (lisE nA (evE nA fs f) o vars s (i + 1)).l)) := by
          rw [hs2] at hset; show Own _ _ _ _ _; rw [HST.out]; exact hset
        have HK2 : Hid (Kp (fun b => b = bv) w (w4.setCell ⟨w.heap.size, i, none⟩ (.int .i64 rr.v))) := k5.newBlock (Nat.le_refl _) _
        have HE2 : Hid (EvAt (w4.setCell ⟨w.heap.size, i, none⟩ (.int .i64 rr.v)) bv ap fs.length capp (lisE nA (evE nA fs f) o vars s (i + 1)).s) := by
          show EvAt _ _ _ _ _ _; rw [HST.out]; exact e4.other (by show w.heap.size ≠ bv; omega) _
        have HN2 : Hid (Nums (lisE nA (evE nA fs f) o vars s (i + 1)).l) := by show Nums _; rw [HST.out]; exact nums_snoc HN.out ⟨hv0, hv1⟩
        have HC2 : Hid ((lisE nA (evE nA fs f) o vars s (i + 1)).c = 0) := by show _ = _; rw [HST.out]; exact hc
        clear hof hof4 hset hs2 hlen HO HK HE HN HST HCV
        generalize (fillz o.len (lisE nA (evE nA fs f) o vars s i).l).getD i 0 = y at hcs
        go_wp2_with fail
        go_roundw
        case rel => exact ⟨i + 1, by omega, by go_num, HC2.out, HO2.out, HN2.out, HK2.out, HE2.out⟩
        case measure => simp [intOf]; omega
      · have hbf : (rr.c != 0) = true := by simp [hc]
        have HBD := Lib.hid (lisE_bad (A := nA) (m := o.len) hlt HC.out (by rw [HA.out]; exact hc))
        rw [HA.out] at HBD
        clear hof hof4 HO HK HE HN HCV hv
        go_wp2_with fail
        go_ret2
        exact ⟨k5, by rw [HBD.out.2]; exact e4, .inr ⟨by rw [HBD.out.1]; exact hc, by rw [HBD.out.1]; rfl⟩⟩
    · have hii : ¬ (i : Int) < (o.len : Int) := by omega
      obtain rfl : i = o.len := by omega
      have hll := lisE_len _ HC.out
      have HO2 : Hid (Own w.heap.size wr w.heap.size o.len (lisE nA (evE nA fs f) o vars s o.len).l) := by have := HO.out; rw [fillz_full hll] at this; exact this
      have HX : Hid (LRes bv ap fs.length capp w (lisE nA (evE nA fs f) o vars s o.len) (.returned (.tuple #[.slice (some ⟨w.heap.size, 0, none⟩) o.len o.len, .int .i64 0])) wr) :=
        ⟨HK.out, HE.out, .inl ⟨HC.out, w.heap.size, by rw [hll], by rw [hll]; exact HO2.out, HN.out⟩⟩
      clear HO HK HE HN HO2 HC
      go_wp2_with fail
      go_ret2
      exact HX.out

end Go.Proofs.YtoedccgiahegnaaGreat

namespace Go.Proofs.YtoedccgiahegnaaGreat
open Go.RowKit
set_option linter.unusedVariables false

abbrev IP := Int × Int
/-- the cells of a list of pairs -/
def flP : List IP → List Value
  | [] => []
  | x :: r => .int .i64 x.1 :: .int .i64 x.2 :: flP r
theorem flP_len : ∀ l, (flP l).length = l.length * 2
  | [] => rfl
  | x :: r => by rw [flP, List.length_cons, List.length_cons, flP_len r, List.length_cons]; omega
theorem flP_one : ∀ l, ∀ u ∈ flP l, u.oneCell' = true
  | [], u, h => by cases h
  | x :: r, u, h => by
    rw [flP] at h
    rcases List.mem_cons.1 h with rfl | h
    · rfl
    · rcases List.mem_cons.1 h with rfl | h
      · rfl
      · exact flP_one r u h
theorem flP_get : ∀ (l : List IP) (i : Nat), i < l.length → (flP l)[i * 2]? = some (.int .i64 (l.getD i (0, 0)).1) ∧ (flP l)[i * 2 + 1]? = some (.int .i64 (l.getD i (0, 0)).2)
  | [], i, h => by simp at h
  | x :: r, 0, h => ⟨rfl, rfl⟩
  | x :: r, i + 1, h => by
    have := flP_get r i (by simpa using h)
    rw [show (i + 1) * 2 = i * 2 + 1 + 1 by omega]
    exact ⟨by rw [flP, List.getElem?_cons_succ, List.getElem?_cons_succ, this.1]; rfl, by rw [flP, List.getElem?_cons_succ, List.getElem?_cons_succ, this.2]; rfl⟩
theorem flP_app (l r : List IP) : flP (l ++ r) = flP l ++ flP r := by
  induction l with
  | nil => rfl
  | cons x l ih => rw [List.cons_append, flP, ih, flP]; rfl
theorem flP_set : ∀ (l : List IP) (i : Nat) (x : IP), ((flP l).set (i * 2) (.int .i64 x.1)).set (i * 2 + 1) (.int .i64 x.2) = flP (l.set i x)
  | [], i, x => by simp [flP]
  | y :: r, 0, x => rfl
  | y :: r, i + 1, x => by
    rw [show (i + 1) * 2 = i * 2 + 1 + 1 by omega, flP, List.set_cons_succ, List.set_cons_succ, List.set_cons_succ, List.set_cons_succ, flP_set r i x, List.set_cons_succ, flP]
theorem flP_zero : ∀ n, flP (List.replicate n (0, 0)) = List.replicate (n * 2) (.int .i64 0)
  | 0 => rfl
  | n + 1 => by rw [List.replicate_succ, flP, flP_zero n, show (n + 1) * 2 = n * 2 + 1 + 1 by omega, List.replicate_succ, List.replicate_succ]
theorem made_two (a : Value) (m : Nat) : (madeCells #[a, a] m).toList = List.replicate m a := by
  unfold madeCells
  apply List.ext_getElem
  · simp
  · intro i h1 h2
    rcases Nat.mod_two_eq_zero_or_one i with h | h <;> simp [h]
set_option maxRecDepth 100000 in
theorem infoP : (Tryz.prog.info? 121).map (fun i => (i.zero, i.size, i.bytes)) = some (some (.agg #[.int .i64 0, .int .i64 0]), 2, 16) := by kernel_rfl

namespace Pr
/-- numbers, both -/
def Nums (l : List IP) : Prop := ∀ x ∈ l, Num2 x
theorem Nums.at {l : List IP} (h : Nums l) (k : Nat) : Num2 (l.getD k (0, 0)) := by
  by_cases hk : k < l.length
  · rw [List.getD_eq_getElem?_getD, List.getElem?_eq_getElem hk]; exact h _ (List.getElem_mem hk)
  · rw [List.getD_eq_getElem?_getD, List.getElem?_eq_none (by omega)]; exact ⟨by simp, by simp⟩
theorem nums_snoc {l : List IP} {x : IP} (h : Nums l) (hx : Num2 x) : Nums (l ++ [x]) := by
  intro n hn
  rcases List.mem_append.1 hn with hn | hn
  · exact h n hn
  · simp at hn; subst hn; exact hx
/-- the slice at address a reads as l -/
def At (w : World) (a : Option Addr) (l : List IP) : Prop :=
  l = [] ∨ ∃ b off, a = some ⟨b, off, none⟩ ∧ b < w.heap.size ∧ ∀ k, k < l.length → w.cell? ⟨b, off + k * 2, none⟩ = some (.int .i64 (l.getD k (0, 0)).1) ∧ w.cell? ⟨b, off + k * 2 + 1, none⟩ = some (.int .i64 (l.getD k (0, 0)).2)
theorem At.below {w w' : World} {a : Option Addr} {l : List IP} {B : Nat} (h : At w a l) (hb : Below B w w') (hB : w.heap.size ≤ B) : At w' a l := by
  rcases h with h | ⟨b, off, h1, h2, h3⟩
  · exact .inl h
  · exact .inr ⟨b, off, h1, Nat.lt_of_lt_of_le h2 hb.size, fun k hk => ⟨(hb.cell (p := ⟨b, off + k * 2, none⟩) (by show b < B; omega)).trans (h3 k hk).1, (hb.cell (p := ⟨b, off + k * 2 + 1, none⟩) (by show b < B; omega)).trans (h3 k hk).2⟩⟩
theorem flP_at {w : World} {b off : Nat} {l : List IP} (h : ∀ k, k < l.length → w.cell? ⟨b, off + k * 2, none⟩ = some (.int .i64 (l.getD k (0, 0)).1) ∧ w.cell? ⟨b, off + k * 2 + 1, none⟩ = some (.int .i64 (l.getD k (0, 0)).2)) : ∀ j u, (flP l)[j]? = some u → w.cell? ⟨b, off + j, none⟩ = some u := by
  intro j u hj
  have hlt : j < l.length * 2 := by
    have := (List.getElem?_eq_some_iff.1 hj).1
    rwa [flP_len] at this
  obtain ⟨c0, c1⟩ := h (j / 2) (by omega)
  obtain ⟨g0, g1⟩ := flP_get l (j / 2) (by omega)
  rcases Nat.mod_two_eq_zero_or_one j with hm | hm
  · have ej : j = j / 2 * 2 := by omega
    rw [ej, g0] at hj
    rw [ej, c0]; exact hj
  · have ej : j = j / 2 * 2 + 1 := by omega
    rw [ej, g1] at hj
    rw [ej, ← Nat.add_assoc, c1]; exact hj
theorem At.olds {w : World} {a : Option Addr} {l : List IP} (h : At w a l) : ∀ b, a = some b → ∀ j u, (flP l)[j]? = some u → w.cell? (b.add j) = some u := by
  intro b hb j u hj
  rcases h with rfl | ⟨bb, off, h1, _, hc⟩
  · simp [flP] at hj
  · rw [h1] at hb; cases hb
    rw [Addr.add_lit]
    exact flP_at hc j u hj
theorem At.none0 {w : World} {a : Option Addr} {l : List IP} (h : At w a l) : a = none → l.length = 0 := by
  intro ha
  rcases h with rfl | ⟨b, off, h1, _⟩
  · rfl
  · rw [ha] at h1; cases h1
/-- the block g holds the list l at its head -/
def Own (B : Nat) (w : World) (g cap : Nat) (l : List IP) : Prop := w.ownsRow B 121 2 (.slice (some ⟨g, 0, none⟩) l.length cap) l.length (flP l)
theorem Own.base {B : Nat} {w : World} {g cap : Nat} {l : List IP} (h : Own B w g cap l) : B ≤ g ∧ g < w.heap.size := World.ownsRow.lt h g rfl
theorem Own.cell0 {B : Nat} {w : World} {g cap : Nat} {l : List IP} (h : Own B w g cap l) (k : Nat) (hk : k < l.length) : w.cell? ⟨g, k * 2, none⟩ = some (.int .i64 (l.getD k (0, 0)).1) :=
  (World.ownsRow.cellAt h (k * 2) (by omega)).trans (flP_get l k hk).1
theorem Own.cell1 {B : Nat} {w : World} {g cap : Nat} {l : List IP} (h : Own B w g cap l) (k : Nat) (hk : k < l.length) : w.cell? ⟨g, k * 2 + 1, none⟩ = some (.int .i64 (l.getD k (0, 0)).2) :=
  (World.ownsRow.cellAt h (k * 2 + 1) (by omega)).trans (flP_get l k hk).2
theorem Own.frz {B : Nat} {w : World} {g cap : Nat} {l : List IP} (h : Own B w g cap l) (k : Nat) : w.frozen? ⟨g, k, none⟩ = false := World.ownsRow.frozenAt h k
theorem Own.set {B : Nat} {w : World} {g cap : Nat} {l : List IP} (h : Own B w g cap l) (k : Nat) (x : IP) : Own B ((w.setCell ⟨g, k * 2, none⟩ (.int .i64 x.1)).setCell ⟨g, k * 2 + 1, none⟩ (.int .i64 x.2)) g cap (l.set k x) := by
  unfold Own
  have h1 := (World.ownsRow.stored h (k * 2) (.int .i64 x.1)).1
  have h2 := (World.ownsRow.stored h1 (k * 2 + 1) (.int .i64 x.2)).1
  rw [List.length_set, ← flP_set]
  exact h2
theorem Own.at {B : Nat} {w : World} {g cap : Nat} {l : List IP} (h : Own B w g cap l) : At w (some ⟨g, 0, none⟩) l :=
  .inr ⟨g, 0, rfl, h.base.2, fun k hk => by rw [Nat.zero_add]; exact ⟨h.cell0 k hk, h.cell1 k hk⟩⟩
theorem Own.keep {L : Nat} {w w' : World} {g cap : Nat} {l : List IP} {S : Nat → Prop} (h : Own L w g cap l) (k : Kp S w w') (hS : ¬ S g) : Own L w' g cap l := by
  obtain ⟨h1, h2⟩ := h
  refine ⟨h1, ?_⟩
  rcases h2 with h2 | ⟨g', cap', cur, hv, hB, hh, r⟩
  · exact .inl h2
  · refine .inr ⟨g', cap', cur, hv, hB, ?_, r⟩
    have e : g = g' := by simp only [Value.slice.injEq, Option.some.injEq, Addr.mk.injEq] at hv; exact hv.1.1
    subst e
    rw [k.block g (Array.getElem?_eq_some_iff.1 hh).1 hS]; exact hh
theorem Own.keepE {L : Nat} {w w' : World} {g cap bv : Nat} {l : List IP} (h : Own L w g cap l) (k : Kp (fun b => b = bv) w w') (hb : g ≠ bv) : Own L w' g cap l := h.keep k hb
theorem Own.kept {B : Nat} {w w' : World} {g cap : Nat} {l : List IP} (h : Own B w g cap l) (hb : Below w.heap.size w w') (hC : g < w.heap.size) : Own B w' g cap l := h.keep (S := fun _ => False) (Kp.of_below hb) (fun h => h)
theorem Own.mono {B B' : Nat} {w : World} {g cap : Nat} {l : List IP} (h : Own B w g cap l) (hB : B' ≤ B) : Own B' w g cap l := by
  obtain ⟨h1, h2⟩ := h
  refine ⟨h1, ?_⟩
  rcases h2 with h2 | ⟨g', cap', cur, hv, hg, r⟩
  · exact Or.inl h2
  · exact Or.inr ⟨g', cap', cur, hv, by omega, r⟩
theorem Own.cap_le {B : Nat} {w : World} {g cap : Nat} {l : List IP} (h : Own B w g cap l) : l.length ≤ cap := by
  obtain ⟨_, h2⟩ := h
  rcases h2 with ⟨h2, _⟩ | ⟨g', cap', cur, hv, _, _, hc, _⟩
  · cases h2
  · simp only [Value.slice.injEq] at hv
    omega
/-- the list xs, filled up with zeros to n pairs -/
def fillz (n : Nat) (xs : List IP) : List IP := xs ++ List.replicate (n - xs.length) (0, 0)
theorem fillz_len {n : Nat} {xs : List IP} (h : xs.length ≤ n) : (fillz n xs).length = n := by simp [fillz]; omega
theorem fillz_full {n : Nat} {xs : List IP} (h : xs.length = n) : fillz n xs = xs := by simp [fillz, h]
theorem fillz_set {n : Nat} {xs : List IP} (h : xs.length < n) (v : IP) : (fillz n xs).set xs.length v = fillz n (xs ++ [v]) := by
  unfold fillz
  rw [List.set_append_right _ _ (Nat.le_refl _), Nat.sub_self, List.length_append, List.append_assoc]
  congr 1
  rw [show n - xs.length = (n - (xs.length + 1)) + 1 from by omega, List.replicate_succ]
  simp
theorem made_own {B : Nat} {w : World} {g n : Nat} (h : w.ownsRow B 121 2 (.slice (some ⟨g, 0, none⟩) n n) n (madeCells #[Value.int .i64 0, .int .i64 0] (n * 2)).toList) : Own B w g n (fillz n []) := by
  have e : fillz n [] = List.replicate n ((0 : Int), (0 : Int)) := by simp [fillz]
  unfold Own
  rw [e, List.length_replicate, flP_zero, ← made_two]; exact h
theorem own_appended {B : Nat} {w : World} {g cap : Nat} {xs : List IP} {x : IP} (h : w.ownsRow B 121 2 (.slice (some ⟨g, 0, none⟩) (xs.length + 1) cap) (xs.length + 1) (flP xs ++ [Value.int .i64 x.1, Value.int .i64 x.2])) : Own B w g cap (xs ++ [x]) := by
  unfold Own
  rw [List.length_append, flP_app]
  exact h
/-- a list that lies elsewhere -/
structure Ls (w : World) (bv : Nat) (a : Option Addr) (l : List IP) : Prop where
  at_ : At w a l
  ne : ∀ g, l ≠ [] → a.map (·.block) = some g → g ≠ bv
theorem Ls.keep {w w' : World} {bv : Nat} {a : Option Addr} {l : List IP} (h : Ls w bv a l) (k : Kp (fun b => b = bv) w w') : Ls w' bv a l := by
  refine ⟨?_, h.ne⟩
  by_cases hl : l = []
  · exact .inl hl
  · obtain ⟨b, off, rfl, hb, hc⟩ := h.at_.resolve_left hl
    have hne : ¬ b = bv := h.ne b hl rfl
    exact .inr ⟨b, off, rfl, Nat.lt_of_lt_of_le hb k.size, fun i hi => ⟨k.cell (hc i hi).1 hne, k.cell (hc i hi).2 hne⟩⟩
theorem Own.ls {L : Nat} {w : World} {g cap bv : Nat} {l : List IP} (h : Own L w g cap l) (hb : bv < L) : Ls w bv (some ⟨g, 0, none⟩) l :=
  ⟨h.at, fun g' _ hg => by have := h.base; simp at hg; omega⟩
theorem row_succ {W : World} {base : Nat} {e : TypeId} {size : Nat} {v : Value} {k : Nat} {xs : List Value} (h : W.ownsRow base e size v (k + 1) xs) : ∃ g cap, v = .slice (some ⟨g, 0, none⟩) (k + 1) cap := by
  rcases h.2 with ⟨_, h0⟩ | ⟨g, cap, _, rfl, _⟩
  · omega
  · exact ⟨g, cap, rfl⟩
theorem row_cap {W : World} {base : Nat} {e : TypeId} {size : Nat} {g k cap : Nat} {xs : List Value} (h : W.ownsRow base e size (.slice (some ⟨g, 0, none⟩) k cap) k xs) : cap ≤ 9223372036854775807 := by
  rcases h.2 with ⟨h1, _⟩ | ⟨g', cap', cur, hv, _, _, _, hm, _⟩
  · cases h1
  · cases hv; unfold maxLen at hm; omega
theorem kpgrown {S : Nat → Prop} {w w' : World} {row : Option Nat} (h : w.grownBy w' row) (hS : ∀ g, row = some g → S g) : Kp S w w' :=
  ⟨h.os, h.tape, h.output, h.size, fun i hi hn => h.block i hi (fun e => hn (hS i e.symm))⟩
end Pr

end Go.Proofs.YtoedccgiahegnaaGreat

namespace Go.Proofs.YtoedccgiahegnaaGreat
open Go.RowKit
set_option linter.unusedVariables false

/-- the arithmetic of pairs, as a value -/
abbrev ofP : Value := .iface 123 (.agg #[ofN])

namespace Pr
/-- where the evaluation keeps its fields -/
structure EvAt (w : World) (bv : Nat) (ap : Option Addr) (fl capp s : Nat) : Prop where
  c0 : w.cell? ⟨bv, 0, none⟩ = some ofP
  c1 : w.cell? ⟨bv, 1, none⟩ = some (.slice ap fl capp)
  c2 : w.cell? ⟨bv, 2, none⟩ = some (.int .i64 s)
  fz : ∀ o, w.frozen? ⟨bv, o, none⟩ = false
theorem EvAt.next {w w' : World} {bv : Nat} {ap : Option Addr} {fl capp s : Nat} (h : EvAt w bv ap fl capp s) (hb : Below w.heap.size w w') : EvAt w' bv ap fl capp s := by
  have hl := cell_lt h.c0
  exact ⟨(hb.cell (p := ⟨bv, 0, none⟩) hl).trans h.c0, (hb.cell (p := ⟨bv, 1, none⟩) hl).trans h.c1, (hb.cell (p := ⟨bv, 2, none⟩) hl).trans h.c2, fun o => (hb.frozen (p := ⟨bv, o, none⟩) hl).trans (h.fz o)⟩
theorem EvAt.other {w : World} {bv : Nat} {ap : Option Addr} {fl capp s : Nat} (h : EvAt w bv ap fl capp s) {p : Addr} (hp : p.block ≠ bv) (v : Value) : EvAt (w.setCell p v) bv ap fl capp s := by
  have e : ∀ o, (w.setCell p v).cell? ⟨bv, o, none⟩ = w.cell? ⟨bv, o, none⟩ := fun o => World.cell?_setCell_other _ _ _ _ (by intro e; apply hp; rw [e])
  exact ⟨(e 0).trans h.c0, (e 1).trans h.c1, (e 2).trans h.c2, fun o => (World.frozen?_setCell _ _ _ _).trans (h.fz o)⟩
/-- a value is answered -/
def VRes (bv : Nat) (ap : Option Addr) (fl capp : Nat) (w : World) (r : Rv (Int × Int)) (e : Ending) (w' : World) : Prop :=
  Kp (fun b => b = bv) w w' ∧ EvAt w' bv ap fl capp r.s ∧ ∃ v, e = .returned (.tuple #[.agg #[.int .i64 v.1, .int .i64 v.2], .int .i64 r.c]) ∧ (r.c = 0 → v = r.v ∧ Num2 v)
/-- a list of values is answered -/
def LRes (bv : Nat) (ap : Option Addr) (fl capp : Nat) (w : World) (r : Rl (Int × Int)) (e : Ending) (w' : World) : Prop :=
  Kp (fun b => b = bv) w w' ∧ EvAt w' bv ap fl capp r.s ∧ ((r.c = 0 ∧ ∃ g, e = .returned (.tuple #[.slice (some ⟨g, 0, none⟩) r.l.length r.l.length, .int .i64 0]) ∧ Own w.heap.size w' g r.l.length r.l ∧ Nums r.l) ∨ (¬ r.c = 0 ∧ e = .returned (.tuple #[.slice none 0 0, .int .i64 r.c])))
theorem VRes.from {bv : Nat} {ap : Option Addr} {fl capp : Nat} {w w1 : World} {r : Rv (Int × Int)} {e : Ending} {w' : World} (h : VRes bv ap fl capp w1 r e w') (k : Kp (fun b => b = bv) w w1) : VRes bv ap fl capp w r e w' := ⟨k.trans h.1, h.2⟩

/-- what an evaluation with so much fuel does at a node -/
def PV (fs : List Fn) (ap : Option Addr) (capp bv B f : Nat) : Prop :=
  ∀ (fi : Nat) (k n p c : Int) (ks : Fo) (a : Option Addr) (cap : Nat) (av : Option Addr) (cav : Nat) (vars : List (Int × Int)) (s : Nat) (w : World),
    3000 < f + s → s ≤ 3000 → fi ≤ fs.length → nodeB fs (vars.length : Int) (fi : Int) k n p c ks.len = true → treeB fs (fi : Int) ks (vars.length : Int) k 0 = true → EvAt w bv ap fs.length capp s → Pat w 0 B fs ap → Fat w 0 B ks a → ks.len ≤ maxLen → Ls w bv av vars → Nums vars → vars.length ≤ 412 + s → vars.length ≤ cav → cav ≤ 9223372036854775807 →
    Calls Tryz.prog 122 #[.pointer (some ⟨bv, 0, none⟩), .agg #[.int .i64 k, .int .i64 n, .int .i64 p, .int .i64 c, .slice a ks.len cap], .slice av vars.length cav] w (VRes bv ap fs.length capp w (evE pA fs f k n p c ks vars s))
def PL (fs : List Fn) (ap : Option Addr) (capp bv B f : Nat) : Prop :=
  ∀ (fi : Nat) (q : Int) (o : Fo) (ao : Option Addr) (cao : Nat) (av : Option Addr) (cav : Nat) (vars : List (Int × Int)) (s : Nat) (w : World),
    3000 < f + s → s ≤ 3000 → fi ≤ fs.length → q ≠ 9 → treeB fs (fi : Int) o (vars.length : Int) q 0 = true → EvAt w bv ap fs.length capp s → Pat w 0 B fs ap → Fat w 0 B o ao → o.len ≤ 1048576 → Ls w bv av vars → Nums vars → vars.length ≤ 412 + s → vars.length ≤ cav → cav ≤ 9223372036854775807 →
    Calls Tryz.prog 99 #[.pointer (some ⟨bv, 0, none⟩), .slice ao o.len cao, .slice av vars.length cav] w (LRes bv ap fs.length capp w (lisE pA (evE pA fs f) o vars s o.len))

set_option maxRecDepth 100000 in
set_option maxHeartbeats 6400000 in
theorem iValues {fs : List Fn} {ap : Option Addr} {capp bv B f : Nat} (hBv : B ≤ bv) (hV : PV fs ap capp bv B f) : PL fs ap capp bv B f := by
  intro fi q o ao cao av cav vars s w hf hs hfi hq ht hE hP hF hol hL hN hvl hcv hcv2
  obtain ⟨i0, hi, hz0, hz1, hz2⟩ := info_parts infoP
  have hbw := cell_lt hE.c0
  have HE := Lib.hid hE
  have HP := Lib.hid hP
  have HF := Lib.hid hF
  have HL := Lib.hid hL
  clear hE hP hF hL
  go_enter Tryz.func99, Tryz.ntmps99
  go_wp2_with (refine wpList_make_full _ rfl _ _ 117 rfl w.heap.size 121 i0 (.agg #[.int .i64 0, .int .i64 0]) 2 Tryz.underlying117 hi hz0 hz1 .i64 .i64 _ _ o.len rfl rfl rfl rfl ?c2 ?c3 (Nat.le_refl _) ?_)
  case c2 => rw [hz2]; omega
  case c3 => unfold maxLen; omega
  intro w1 ho1 hg1
  have hb1 := (Below.refl w.heap.size w).grown hg1 (Nat.le_refl _) (by intro k hk; cases hk)
  have HO0 : Hid (Own w.heap.size w1 w.heap.size o.len (fillz o.len ([] : List (Int × Int)))) := made_own ho1
  have HK0 : Hid (Kp (fun b => b = bv) w w1) := Kp.of_below hb1
  have HE0 : Hid (EvAt w1 bv ap fs.length capp s) := HE.out.next hb1
  clear ho1 hg1 hi hz0 hz1 hz2 hb1 HE
  go_wp2_with fail
  go_loopw [18] (fun x wr => ∃ i : Nat, i ≤ o.len ∧ x = .int .i64 i ∧ Hid ((lisE pA (evE pA fs f) o vars s i).c = 0) ∧ Hid (Own w.heap.size wr w.heap.size o.len (fillz o.len (lisE pA (evE pA fs f) o vars s i).l)) ∧ Hid (Nums (lisE pA (evE pA fs f) o vars s i).l) ∧ Hid (Kp (fun b => b = bv) w wr) ∧ Hid (EvAt wr bv ap fs.length capp (lisE pA (evE pA fs f) o vars s i).s)) (fun x _ => o.len - (intOf x).toNat)
  case atStart => exact ⟨0, Nat.zero_le _, rfl, rfl, HO0.out, (fun n hn => by cases hn), HK0.out, HE0.out⟩
  case round =>
    obtain ⟨i, hi, rfl, HC, HO, HN, HK, HE⟩ := hrel
    clear HO0 HK0 HE0
    by_cases hlt : i < o.len
    · have hii : (i : Int) < (o.len : Int) := by omega
      have hFw := HF.out.keepE HK.out hBv hbw
      obtain ⟨b, off, rfl, hbB⟩ := hFw.blk (by omega)
      obtain ⟨k, n, p, c, kk, a', cap', hd, hR, hkl, x0, x1, x2, x3, x4, hFk⟩ := Fat.node hFw hlt
      obtain ⟨v1, v2⟩ := treeB_at o 0 i ht hd
      have hm : more q (0 + i) = 0 := by unfold more; rw [if_neg (fun h => hq h.1)]
      rw [hm, Int.add_zero] at v1 v2
      have hst := lisE_stp (A := pA) (evE_stp (A := pA) fs f s hf) o vars s (Nat.le_refl _) hs i
      have hll := lisE_len _ HC.out
      obtain ⟨w3, hw3⟩ : ∃ w3, w3 = wr.alloc (.cells #[.int .i64 k, .int .i64 n, .int .i64 p, .int .i64 c, .slice a' kk.len cap'] 137) := ⟨_, rfl⟩
      have b3 : Below wr.heap.size wr w3 := by rw [hw3]; exact (Below.refl _ _).alloc (Nat.le_refl _) _
      have k3 := HK.out.more b3
      have hzr := HK.out.size
      have hz3 := b3.size
      obtain ⟨rr, hrr⟩ : ∃ rr, rr = evE pA fs f k n p c kk vars (lisE pA (evE pA fs f) o vars s i).s := ⟨_, rfl⟩
      have HCV := Lib.hid (hV fi k n p c kk a' cap' av cav vars (lisE pA (evE pA fs f) o vars s i).s w3 (by omega) hst.2 hfi v1 v2 (HE.out.next b3) (HP.out.keepE k3 hBv hbw) (hFk.agree (fun j _ h2 => b3.block j (by omega))) hkl (HL.out.keep k3) hN (by omega) hcv hcv2)
      rw [← hrr] at HCV
      have HA : Hid (atE pA (evE pA fs f) o i vars (lisE pA (evE pA fs f) o vars s i).s = rr) := by show _ = _; rw [atE_eq hd, hrr]
      have hof := HO.out.kept b3 HO.out.base.2
      clear hrr hFw hFk v1 v2 hR hkl
      go_wp2_with fail
      rw [← hw3]
      clear hw3 x0 x1 x2 x3 x4
      refine HCV.out.mono ?_; rintro e w4 ⟨k4, e4, v, rfl, hv⟩
      have hof4 := hof.keepE k4 (by omega)
      have k5 := k3.trans k4
      by_cases hc : rr.c = 0
      · obtain ⟨rfl, hv0, hv1⟩ := hv hc
        obtain ⟨w5, hw5⟩ : ∃ w5, w4.alloc (.cells #[.int .i64 rr.v.1, .int .i64 rr.v.2] 121) = w5 := ⟨_, rfl⟩
        have b5 : Below w4.heap.size w4 w5 := by rw [← hw5]; exact (Below.refl _ _).alloc (Nat.le_refl _) _
        have d0 : w5.cell? ⟨w4.heap.size, 0, none⟩ = some (.int .i64 rr.v.1) := by rw [← hw5]; simp [go_sem]
        have d1 : w5.cell? ⟨w4.heap.size, 1, none⟩ = some (.int .i64 rr.v.2) := by rw [← hw5]; simp [go_sem]
        have hof4 := hof4.kept b5 hof4.base.2
        have k5 := k5.more b5
        have e4 := e4.next b5
        have hbf : (rr.c != 0) = false := by rw [hc]; rfl
        have hlen : (fillz o.len (lisE pA (evE pA fs f) o vars s i).l).length = o.len := fillz_len (by omega)
        have hcs := hof4.cell0 i (by rw [hlen]; exact hlt)
        have hcs1 := hof4.cell1 i (by rw [hlen]; exact hlt)
        have hfr := hof4.frz (i * 2)
        have hfr1 := hof4.frz (i * 2 + 1)
        have hset := hof4.set i rr.v
        have hs2 : (fillz o.len (lisE pA (evE pA fs f) o vars s i).l).set i rr.v = fillz o.len ((lisE pA (evE pA fs f) o vars s i).l ++ [rr.v]) := by
          have := fillz_set (n := o.len) (xs := (lisE pA (evE pA fs f) o vars s i).l) (by omega) rr.v
          rw [hll] at this; exact this
        have HST : Hid (lisE pA (evE pA fs f) o vars s (i + 1) = ⟨(lisE pA (evE pA fs f) o vars s i).l ++ [rr.v], rr.s, rr.c⟩) := by show _ = _; rw [lisE_step HC.out, HA.out]
        have HO2 : Hid (Own w.heap.size ((w5.setCell ⟨w.heap.size, i * 2, none⟩ (.int .i64 rr.v.1)).setCell ⟨w.heap.size, i * 2 + 1, none⟩ (.int .i64 rr.v.2)) w.heap.size o.len (fillz o.len (lisE pA (evE pA fs f) o vars s (i + 1)).l)) := by
          rw [hs2] at hset; show Own _ _ _ _ _; rw [HST.out]; exact hset
        have HK2 : Hid (Kp (fun b => b = bv) w ((w5.setCell ⟨w.heap.size, i * 2, none⟩ (.int .i64 rr.v.1)).setCell ⟨w.heap.size, i * 2 + 1, none⟩ (.int .i64 rr.v.2))) := (k5.newBlock (p := ⟨w.heap.size, i * 2, none⟩) (Nat.le_refl _) _).newBlock (p := ⟨w.heap.size, i * 2 + 1, none⟩) (Nat.le_refl _) _
        have HE2 : Hid (EvAt ((w5.setCell ⟨w.heap.size, i * 2, none⟩ (.int .i64 rr.v.1)).setCell ⟨w.heap.size, i * 2 + 1, none⟩ (.int .i64 rr.v.2)) bv ap fs.length capp (lisE pA (evE pA fs f) o vars s (i + 1)).s) := by
          show EvAt _ _ _ _ _ _; rw [HST.out]; exact (e4.other (p := ⟨w.heap.size, i * 2, none⟩) (by show w.heap.size ≠ bv; omega) _).other (p := ⟨w.heap.size, i * 2 + 1, none⟩) (by show w.heap.size ≠ bv; omega) _
        have HN2 : Hid (Nums (lisE pA (evE pA fs f) o vars s (i + 1)).l) := by show Nums _; rw [HST.out]; exact nums_snoc HN.out ⟨hv0, hv1⟩
        have HC2 : Hid ((lisE pA (evE pA fs f) o vars s (i + 1)).c = 0) := by show _ = _; rw [HST.out]; exact hc
        clear hof hof4 hset hs2 hlen HO HK HE HN HST HCV
        generalize (fillz o.len (lisE pA (evE pA fs f) o vars s i).l).getD i (0, 0) = y at hcs hcs1
        go_wp2_with fail
        go_roundw
        case rel => exact ⟨i + 1, by omega, by go_num, HC2.out, HO2.out, HN2.out, HK2.out, HE2.out⟩
        case measure => simp [intOf]; omega
      · have hbf : (rr.c != 0) = true := by simp [hc]
        have HBD := Lib.hid (lisE_bad (A := pA) (m := o.len) hlt HC.out (by rw [HA.out]; exact hc))
        rw [HA.out] at HBD
        clear hof hof4 HO HK HE HN HCV hv
        go_wp2_with fail
        go_ret2
        exact ⟨k5.more ((Below.refl _ _).alloc (Nat.le_refl _) _), by rw [HBD.out.2]; exact e4.next ((Below.refl _ _).alloc (Nat.le_refl _) _), .inr ⟨by rw [HBD.out.1]; exact hc, by rw [HBD.out.1]; rfl⟩⟩
    · have hii : ¬ (i : Int) < (o.len : Int) := by omega
      obtain rfl : i = o.len := by omega
      have hll := lisE_len _ HC.out
      have HO2 : Hid (Own w.heap.size wr w.heap.size o.len (lisE pA (evE pA fs f) o vars s o.len).l) := by have := HO.out; rw [fillz_full hll] at this; exact this
      have HX : Hid (LRes bv ap fs.length capp w (lisE pA (evE pA fs f) o vars s o.len) (.returned (.tuple #[.slice (some ⟨w.heap.size, 0, none⟩) o.len o.len, .int .i64 0])) wr) :=
        ⟨HK.out, HE.out, .inl ⟨HC.out, w.heap.size, by rw [hll], by rw [hll]; exact HO2.out, HN.out⟩⟩
      clear HO HK HE HN HO2 HC
      go_wp2_with fail
      go_ret2
      exact HX.out

end Pr

end Go.Proofs.YtoedccgiahegnaaGreat
