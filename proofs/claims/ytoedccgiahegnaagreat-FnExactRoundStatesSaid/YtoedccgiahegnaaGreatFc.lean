/- The model's evaluation: what it keeps; lists of values; how it fails. The model's evaluation: lists of values of its own; outputs one after the other. The model's evaluation: an environment with one value more; calls and loops. -/
import Derived.Deep.AppendLies
import Derived.Test.YtoedccgiahegnaaGreatDw
import Derived.Test.YtoedccgiahegnaaGreatFitW
namespace Go.Proofs.YtoedccgiahegnaaGreat
open Go.RowKit
set_option linter.unusedVariables false

/-- where the model's evaluation keeps its fields -/
structure RnAt (w : World) (br bp op n s : Nat) (c : Int) : Prop where
  c0 : w.cell? ⟨br, 0, none⟩ = some (.pointer (some ⟨bp, op, none⟩))
  c1 : w.cell? ⟨br, 1, none⟩ = some (.int .i64 n)
  c2 : w.cell? ⟨br, 2, none⟩ = some (.int .i64 s)
  c3 : w.cell? ⟨br, 3, none⟩ = some (.int .i64 c)
  fz : ∀ o, w.frozen? ⟨br, o, none⟩ = false
theorem RnAt.next {w w' : World} {br bp op n s : Nat} {c : Int} (h : RnAt w br bp op n s c) (hb : Below w.heap.size w w') : RnAt w' br bp op n s c := by
  have hl := cell_lt h.c0
  exact ⟨(hb.cell (p := ⟨br, 0, none⟩) hl).trans h.c0, (hb.cell (p := ⟨br, 1, none⟩) hl).trans h.c1, (hb.cell (p := ⟨br, 2, none⟩) hl).trans h.c2, (hb.cell (p := ⟨br, 3, none⟩) hl).trans h.c3, fun o => (hb.frozen (p := ⟨br, o, none⟩) hl).trans (h.fz o)⟩
theorem RnAt.step {w : World} {br bp op n s : Nat} {c : Int} (h : RnAt w br bp op n s c) : RnAt (w.setCell ⟨br, 2, none⟩ (.int .i64 ((s : Int) + 1))) br bp op n (s + 1) c :=
  ⟨(World.cell?_setCell_other _ _ _ _ (by simp)).trans h.c0, (World.cell?_setCell_other _ _ _ _ (by simp)).trans h.c1, by rw [World.cell?_setCell_same _ _ _ h.c2, Int.natCast_add]; rfl, (World.cell?_setCell_other _ _ _ _ (by simp)).trans h.c3, fun o => (World.frozen?_setCell _ _ _ _).trans (h.fz o)⟩
theorem RnAt.code {w : World} {br bp op n s : Nat} {c c' : Int} (h : RnAt w br bp op n s c) : RnAt (w.setCell ⟨br, 3, none⟩ (.int .i64 c')) br bp op n s c' :=
  ⟨(World.cell?_setCell_other _ _ _ _ (by simp)).trans h.c0, (World.cell?_setCell_other _ _ _ _ (by simp)).trans h.c1, (World.cell?_setCell_other _ _ _ _ (by simp)).trans h.c2, World.cell?_setCell_same _ _ _ h.c3, fun o => (World.frozen?_setCell _ _ _ _).trans (h.fz o)⟩
theorem Ls.next {w w' : World} {bv : Nat} {a : Option Addr} {l : List Int} (h : Ls w bv a l) (hb : Below w.heap.size w w') : Ls w' bv a l := ⟨h.at_.below hb (Nat.le_refl _), h.ne⟩

/-- the lists of an environment: each of n numbers, in blocks below X -/
structure En (w : World) (br : Nat) (R : Nat → Prop) (n : Nat) (a : Option Addr) (vars : List (List Int)) : Prop where
  rows : vars = [] ∨ ∃ b off, a = some ⟨b, off, none⟩ ∧ b ≠ br ∧ b < w.heap.size ∧ ∀ i, i < vars.length → ∃ ai ci, w.cell? ⟨b, off + i, none⟩ = some (.slice ai n ci) ∧ Ls w br ai (vars.getD i []) ∧ ∀ g, blk ai (vars.getD i []) = some g → R g
  len : ∀ i, i < vars.length → (vars.getD i []).length = n
  nums : ∀ i, i < vars.length → Nums (vars.getD i [])
theorem En.keep {w w' : World} {br n : Nat} {R : Nat → Prop} {a : Option Addr} {vars : List (List Int)} (h : En w br R n a vars) (k : Kp (fun b => b = br) w w') : En w' br R n a vars := by
  refine ⟨?_, h.len, h.nums⟩
  rcases h.rows with h0 | ⟨b, off, h1, h2, h3, h4⟩
  · exact .inl h0
  · refine .inr ⟨b, off, h1, h2, Nat.lt_of_lt_of_le h3 k.size, fun i hi => ?_⟩
    obtain ⟨ai, ci, h5, h6, h7⟩ := h4 i hi
    exact ⟨ai, ci, k.cell h5 h2, h6.keep k, h7⟩
theorem En.next {w w' : World} {br n : Nat} {R : Nat → Prop} {a : Option Addr} {vars : List (List Int)} (h : En w br R n a vars) (hb : Below w.heap.size w w') : En w' br R n a vars := by
  refine ⟨?_, h.len, h.nums⟩
  rcases h.rows with h0 | ⟨b, off, h1, h2, h3, h4⟩
  · exact .inl h0
  · refine .inr ⟨b, off, h1, h2, Nat.lt_of_lt_of_le h3 hb.size, fun i hi => ?_⟩
    obtain ⟨ai, ci, h5, h6, h7⟩ := h4 i hi
    exact ⟨ai, ci, (hb.cell (p := ⟨b, off + i, none⟩) h3).trans h5, h6.next hb, h7⟩
theorem En.up {w : World} {br n : Nat} {R R' : Nat → Prop} {a : Option Addr} {vars : List (List Int)} (h : En w br R n a vars) (hR : ∀ g, R g → R' g) : En w br R' n a vars := by
  refine ⟨?_, h.len, h.nums⟩
  rcases h.rows with h0 | ⟨b, off, h1, h2, h3, h4⟩
  · exact .inl h0
  · refine .inr ⟨b, off, h1, h2, h3, fun i hi => ?_⟩
    obtain ⟨ai, ci, h5, h6, h7⟩ := h4 i hi
    exact ⟨ai, ci, h5, h6, fun g hg => hR g (h7 g hg)⟩

/-- what the model answers at a node -/
def SRes (br bp op : Nat) (R : Nat → Prop) (n : Nat) (w : World) (r : Rv (List Int)) (e : Ending) (w' : World) : Prop :=
  Kp (fun b => b = br) w w' ∧ RnAt w' br bp op n r.s r.c ∧ ∃ a cap v, e = .returned (.slice a n cap) ∧ v.length = n ∧ Nums v ∧ Ls w' br a v ∧ (∀ g, blk a v = some g → R g ∨ w.heap.size ≤ g) ∧ (r.c = 0 → v = r.v)
theorem SRes.mk {br bp op n : Nat} {R : Nat → Prop} {w : World} {r : Rv (List Int)} {w' : World} {a : Option Addr} {cap : Nat} {v : List Int} (k : Kp (fun b => b = br) w w') (h : RnAt w' br bp op n r.s r.c) (hl : v.length = n) (hn : Nums v) (hs : Ls w' br a v) (hx : ∀ g, blk a v = some g → R g ∨ w.heap.size ≤ g) (hv : r.c = 0 → v = r.v) : SRes br bp op R n w r (.returned (.slice a n cap)) w' := ⟨k, h, a, cap, v, rfl, hl, hn, hs, hx, hv⟩
/-- a node from a state that may have failed -/
def evX (fs : List Fn) (n f : Nat) (c : Int) (k nn p cc : Int) (ks : Fo) (vars : List (List Int)) (s : Nat) : Rv (List Int) := if c = 0 then evE (sA n) fs f k nn p cc ks vars s else ⟨[], s, c⟩

theorem cstl_numsE {x : Int} {n : Nat} (h : 0 ≤ x ∧ x < 1000003) : Nums (cstl x n) := by
  intro y hy
  unfold cstl at hy
  rcases List.mem_or_eq_of_mem_set hy with hy | rfl
  · have := List.eq_of_mem_replicate hy; omega
  · exact h

set_option maxRecDepth 100000 in
set_option maxHeartbeats 3200000 in
theorem sFail (br bp op : Nat) (R : Nat → Prop) (n s : Nat) (c c' : Int) (w : World) (h : RnAt w br bp op n s c) (hn : n ≤ 13) (hc' : c' ≠ 0) :
    Calls Tryz.prog 105 #[.pointer (some ⟨br, 0, none⟩), .int .i64 c'] w (SRes br bp op R n w ⟨[], s, if c = 0 then c' else c⟩) := by
  have hbw := cell_lt h.c0
  by_cases hc : c = 0
  · have hcb : (c == 0) = true := by simp [hc]
    obtain ⟨w1, hw1⟩ : ∃ w1, w1 = w.setCell ⟨br, 3, none⟩ (.int .i64 c') := ⟨_, rfl⟩
    have h1 : RnAt w1 br bp op n s c' := by rw [hw1]; exact h.code
    have k1 : Kp (fun b => b = br) w w1 := by rw [hw1]; exact Kp.set (p := ⟨br, 3, none⟩) rfl
    have x3 := h.c3
    have xf := h.fz 3
    have y1 : w1.cell? ⟨br, 1, none⟩ = some (.int .i64 n) := h1.c1
    have z1 : w1.heap.size = w.heap.size := by rw [hw1]; simp
    have x1 := h.c1
    have HC := Lib.hid (sConst 0 n w1 (by omega))
    rw [if_pos hc]
    clear h hc
    go_enter Tryz.func105, Tryz.ntmps105
    go_wp2_with fail
    rw [← hw1]
    clear hw1
    refine HC.out.mono ?_; rintro e w2 ⟨g, cap, rfl, ho, hb⟩
    rw [cstl_len]
    have hgb := ho.base
    go_wp2_with fail
    go_ret
    exact .mk (k1.more hb) (h1.next hb) (cstl_len _ _) (cstl_numsE (by omega)) (ho.ls (by omega)) (fun g' hg => .inr (by have := blk_eqE hg; omega)) (fun h => absurd h hc')
  · have hcb : (c == 0) = false := by simp [hc]
    have x3 := h.c3
    have x1 := h.c1
    have HC := Lib.hid (sConst 0 n w (by omega))
    rw [if_neg hc]
    go_enter Tryz.func105, Tryz.ntmps105
    go_wp2_with fail
    refine HC.out.mono ?_; rintro e w2 ⟨g, cap, rfl, ho, hb⟩
    rw [cstl_len]
    have hgb := ho.base
    go_wp2_with fail
    go_ret
    exact .mk (Kp.of_below hb) (h.next hb) (cstl_len _ _) (cstl_numsE (by omega)) (ho.ls (by omega)) (fun g' hg => .inr (by have := blk_eqE hg; omega)) (fun h => absurd h hc)

end Go.Proofs.YtoedccgiahegnaaGreat

namespace Go.Proofs.YtoedccgiahegnaaGreat
open Go.RowKit
set_option linter.unusedVariables false

theorem infoRowE : (Tryz.prog.info? 25).map (fun i => (i.zero, i.size, i.bytes)) = some (some (.slice none 0 0), 1, 24) := by kernel_rfl
theorem Ls.grown {w w' : World} {br g : Nat} {a : Option Addr} {l : List Int} (h : Ls w br a l) (hg : w.grownBy w' (some g)) (hne : ∀ gb, blk a l = some gb → gb ≠ g) : Ls w' br a l := by
  refine ⟨?_, h.ne⟩
  by_cases hl : l = []
  · exact .inl hl
  · obtain ⟨b, off, rfl, hb, hc⟩ := h.at_.resolve_left hl
    have hn : b ≠ g := hne b (by simp [blk, hl])
    exact .inr ⟨b, off, rfl, Nat.lt_of_lt_of_le hb hg.size, fun i hi => (World.cell?_of_block (a := ⟨b, off + i, none⟩) (hg.block b hb (by simpa using fun e => hn e))).trans (hc i hi)⟩
theorem kp_grown {w w1 w2 : World} {S : Nat → Prop} {g : Nat} (h : Kp S w w1) (hg : w1.grownBy w2 (some g)) (hb : w.heap.size ≤ g) : Kp S w w2 :=
  ⟨hg.os.trans h.os, hg.tape.trans h.tape, hg.output.trans h.output, Nat.le_trans h.size hg.size, fun q hq hn => (hg.block q (Nat.lt_of_lt_of_le hq h.size) (by simp; omega)).trans (h.block q hq hn)⟩
theorem RnAt.grown {w w' : World} {br bp op n s g : Nat} {c : Int} (h : RnAt w br bp op n s c) (hg : w.grownBy w' (some g)) (hb : br ≠ g) : RnAt w' br bp op n s c := by
  have hl := cell_lt h.c0
  have e (o : Nat) : w'.cell? ⟨br, o, none⟩ = w.cell? ⟨br, o, none⟩ := World.cell?_of_block (a := ⟨br, o, none⟩) (hg.block br hl (by simpa using hb))
  exact ⟨(e 0).trans h.c0, (e 1).trans h.c1, (e 2).trans h.c2, (e 3).trans h.c3, fun o => (World.frozen?_of_block (a := ⟨br, o, none⟩) (hg.block br hl (by simpa using hb))).trans (h.fz o)⟩
theorem Ls.lt {w : World} {br : Nat} {a : Option Addr} {l : List Int} (h : Ls w br a l) : ∀ g, blk a l = some g → g < w.heap.size := by
  intro g hg
  by_cases hl : l = []
  · simp [blk, hl] at hg
  · obtain ⟨b, off, rfl, hb, hc⟩ := h.at_.resolve_left hl
    simp [blk, hl] at hg
    omega

/-- a list of lists in a block of the call's own; the lists lie anywhere else -/
structure Eo (W : World) (L br : Nat) (R : Nat → Prop) (n g kg k : Nat) (vars : List (List Int)) : Prop where
  top : ∃ vs, W.ownsRow L 25 1 (.slice (some ⟨g, 0, none⟩) k kg) k vs ∧ ∀ i, i < k → ∃ ai ci, vs[i]? = some (.slice ai n ci) ∧ Ls W br ai (vars.getD i []) ∧ ∀ gb, blk ai (vars.getD i []) = some gb → gb ≠ g ∧ (R gb ∨ L ≤ gb)
  vl : vars.length = k
  len : ∀ i, i < k → (vars.getD i []).length = n
  nums : ∀ i, i < k → Nums (vars.getD i [])
theorem Eo.base {W : World} {L br n g kg k : Nat} {R : Nat → Prop} {vars : List (List Int)} (h : Eo W L br R n g kg k vars) : L ≤ g ∧ g < W.heap.size := by obtain ⟨vs, h1, _⟩ := h.top; exact h1.lt g rfl
theorem Eo.en {W : World} {L br n g kg k : Nat} {R : Nat → Prop} {vars : List (List Int)} (h : Eo W L br R n g kg k vars) (hb : br < L) : En W br (fun g => R g ∨ L ≤ g ∧ g < W.heap.size) n (some ⟨g, 0, none⟩) vars := by
  have hgb := h.base
  refine ⟨.inr ⟨g, 0, rfl, by omega, hgb.2, fun i hi => ?_⟩, fun i hi => h.len i (by rw [← h.vl]; exact hi), fun i hi => h.nums i (by rw [← h.vl]; exact hi)⟩
  have hi' : i < k := by rw [← h.vl]; exact hi
  obtain ⟨vs, h1, h2⟩ := h.top
  obtain ⟨ai, ci, h3, h4, h5⟩ := h2 i hi'
  exact ⟨ai, ci, by rw [Nat.zero_add, h1.cellAt i (by omega)]; exact h3, h4, fun gb hg => (h5 gb hg).2.imp id fun e => ⟨e, h4.lt gb hg⟩⟩
theorem Eo.keep {W W' : World} {L br n g kg k : Nat} {R : Nat → Prop} {vars : List (List Int)} (h : Eo W L br R n g kg k vars) (q : Kp (fun b => b = br) W W') (hb : br < L) : Eo W' L br R n g kg k vars := by
  have hgb := h.base
  obtain ⟨vs, ⟨h0, h1⟩, h2⟩ := h.top
  refine ⟨⟨vs, ⟨h0, ?_⟩, fun i hi => ?_⟩, h.vl, h.len, h.nums⟩
  · rcases h1 with h1 | ⟨g', c', cur, e, hB, hh, r⟩
    · exact .inl h1
    · refine .inr ⟨g', c', cur, e, hB, ?_, r⟩
      rw [q.block g' (Array.getElem?_eq_some_iff.1 hh).1 (by omega)]; exact hh
  · obtain ⟨ai, ci, h3, h4, h5⟩ := h2 i hi
    exact ⟨ai, ci, h3, h4.keep q, h5⟩
theorem rows_snoc_lt {l : List (List Int)} {x : List Int} {i : Nat} (h : i < l.length) : (l ++ [x]).getD i [] = l.getD i [] := by
  rw [List.getD_eq_getElem?_getD, List.getElem?_append_left h, List.getD_eq_getElem?_getD]
theorem rows_snoc_eq {l : List (List Int)} {x : List Int} : (l ++ [x]).getD l.length [] = x := by
  rw [List.getD_eq_getElem?_getD, List.getElem?_append_right (Nat.le_refl _), Nat.sub_self]; rfl
/-- a list is appended -/
theorem eo_push {W W1 W' : World} {L br n g k gg cc : Nat} {R : Nat → Prop} {vars : List (List Int)} {vs : List Value} {a : Option Addr} {cap : Nat} {v : List Int} (hvl : vars.length = k) (hlen : ∀ i, i < k → (vars.getD i []).length = n) (hnums : ∀ i, i < k → Nums (vars.getD i []))
    (hvs : vs.length = k) (hrows : ∀ i, i < k → ∃ ai ci, vs[i]? = some (.slice ai n ci) ∧ Ls W br ai (vars.getD i []) ∧ ∀ gb, blk ai (vars.getD i []) = some gb → gb ≠ g ∧ (R gb ∨ L ≤ gb))
    (h1 : Below W.heap.size W W1) (hown : W'.ownsRow L 25 1 (.slice (some ⟨gg, 0, none⟩) (k + 1) cc) (k + 1) (vs ++ [.slice a n cap])) (hgrow : W1.grownBy W' (some g)) (hgg : gg = g ∨ W.heap.size ≤ gg)
    (hv : Ls W br a v) (hvn : v.length = n) (hvm : Nums v) (hvg : ∀ gb, blk a v = some gb → gb ≠ g ∧ (R gb ∨ L ≤ gb)) : Eo W' L br R n gg cc (k + 1) (vars ++ [v]) := by
  refine ⟨⟨_, hown, fun i hi => ?_⟩, by simp [hvl], fun i hi => ?_, fun i hi => ?_⟩
  · by_cases e : i < k
    · obtain ⟨ai, ci, h3, h4, h5⟩ := hrows i e
      have e2 : (vars ++ [v]).getD i [] = vars.getD i [] := rows_snoc_lt (by omega)
      rw [e2]
      refine ⟨ai, ci, by rw [List.getElem?_append_left (by omega)]; exact h3, (h4.next h1).grown hgrow (fun gb hg => (h5 gb hg).1), fun gb hg => ⟨?_, (h5 gb hg).2⟩⟩
      have := h4.lt gb hg
      have := (h5 gb hg).1
      rcases hgg with e | e <;> omega
    · obtain rfl : i = k := by omega
      have e2 : (vars ++ [v]).getD i [] = v := by rw [← hvl]; exact rows_snoc_eq
      rw [e2]
      refine ⟨a, cap, by rw [List.getElem?_append_right (by omega), hvs, Nat.sub_self]; rfl, (hv.next h1).grown hgrow (fun gb hg => (hvg gb hg).1), fun gb hg => ⟨?_, (hvg gb hg).2⟩⟩
      have := hv.lt gb hg
      have := (hvg gb hg).1
      rcases hgg with e | e <;> omega
  · by_cases e : i < k
    · rw [rows_snoc_lt (by omega)]; exact hlen i e
    · obtain rfl : i = k := by omega
      rw [← hvl, rows_snoc_eq]; exact hvn
  · by_cases e : i < k
    · rw [rows_snoc_lt (by omega)]; exact hnums i e
    · obtain rfl : i = k := by omega
      rw [← hvl, rows_snoc_eq]; exact hvm

/-- the first i outputs from a state that may have failed -/
def lisX (fs : List Fn) (n f : Nat) (c : Int) (o : Fo) (vars : List (List Int)) (s i : Nat) : Rl (List Int) := if c = 0 then lisE (sA n) (evE (sA n) fs f) o vars s i else ⟨[], s, c⟩
theorem lisX_step {fs : List Fn} {n f : Nat} {c : Int} {o : Fo} {vars : List (List Int)} {s i : Nat} {k nn p cc : Int} {ks r : Fo} (hd : Fo.drop i o = .cons k nn p cc ks r) :
    (lisX fs n f c o vars s (i + 1)).s = (evX fs n f (lisX fs n f c o vars s i).c k nn p cc ks vars (lisX fs n f c o vars s i).s).s ∧ (lisX fs n f c o vars s (i + 1)).c = (evX fs n f (lisX fs n f c o vars s i).c k nn p cc ks vars (lisX fs n f c o vars s i).s).c ∧
    ((lisX fs n f c o vars s (i + 1)).c = 0 → (lisX fs n f c o vars s i).c = 0 ∧ (lisX fs n f c o vars s (i + 1)).l = (lisX fs n f c o vars s i).l ++ [(evX fs n f (lisX fs n f c o vars s i).c k nn p cc ks vars (lisX fs n f c o vars s i).s).v]) := by
  unfold lisX evX
  by_cases hc : c = 0
  · simp only [hc, if_true]
    by_cases h0 : (lisE (sA n) (evE (sA n) fs f) o vars s i).c = 0
    · rw [lisE_step h0, h0, if_pos rfl, atE_eq hd]
      exact ⟨rfl, rfl, fun _ => ⟨rfl, rfl⟩⟩
    · rw [lisE, if_neg h0, if_neg h0]
      exact ⟨rfl, rfl, fun h => absurd h h0⟩
  · simp [hc]
theorem lisX_stp {fs : List Fn} {n f : Nat} {c : Int} {o : Fo} {vars : List (List Int)} {s : Nat} (hf : 3000 < f + s) (hs : s ≤ 3000) (i : Nat) : s ≤ (lisX fs n f c o vars s i).s ∧ (lisX fs n f c o vars s i).s ≤ 3000 := by
  unfold lisX
  split
  · exact lisE_stp (evE_stp fs f s hf) o vars s (Nat.le_refl _) hs i
  · exact ⟨Nat.le_refl _, hs⟩

/-- what the model does at a node -/
def PS (fs : List Fn) (ap : Option Addr) (capp br bp op n B f : Nat) : Prop :=
  ∀ (R : Nat → Prop) (fi : Nat) (k nn p cc : Int) (ks : Fo) (a : Option Addr) (cap b off : Nat) (ae : Option Addr) (ce : Nat) (vars : List (List Int)) (s : Nat) (c : Int) (w : World),
    3000 < f + s → s ≤ 3000 → fi ≤ fs.length → nodeB fs (vars.length : Int) (fi : Int) k nn p cc ks.len = true → treeB fs (fi : Int) ks (vars.length : Int) k 0 = true → RnAt w br bp op n s c → w.cell? ⟨bp, op, none⟩ = some (.slice ap fs.length capp) → Pat w 0 B fs ap → NodeAt w b off k nn p cc ks.len a cap → b < B → Fat w 0 B ks a → ks.len ≤ maxLen → En w br R n ae vars → (∀ g, R g → g < w.heap.size) → vars.length ≤ 412 + s →
    Calls Tryz.prog 93 #[.pointer (some ⟨br, 0, none⟩), .pointer (some ⟨b, off, none⟩), .slice ae vars.length ce] w (SRes br bp op R n w (evX fs n f c k nn p cc ks vars s))
/-- a list of lists is answered -/
def SLRes (br bp op : Nat) (R : Nat → Prop) (n m : Nat) (w : World) (r : Rl (List Int)) (e : Ending) (w' : World) : Prop :=
  Kp (fun b => b = br) w w' ∧ RnAt w' br bp op n r.s r.c ∧ ∃ g kg vs, e = .returned (.slice (some ⟨g, 0, none⟩) m kg) ∧ Eo w' w.heap.size br R n g kg m vs ∧ (r.c = 0 → vs = r.l)

/-- outputs one after the other -/
def PSO (fs : List Fn) (ap : Option Addr) (capp br bp op n B f : Nat) : Prop :=
  ∀ (R : Nat → Prop) (fi : Nat) (o : Fo) (ao : Option Addr) (cao bf off : Nat) (ae : Option Addr) (ce : Nat) (vars : List (List Int)) (s : Nat) (c : Int) (w : World),
    3000 < f + s → s ≤ 3000 → fi ≤ fs.length → treeB fs (fi : Int) o (vars.length : Int) 0 0 = true → RnAt w br bp op n s c → w.cell? ⟨bp, op, none⟩ = some (.slice ap fs.length capp) → Pat w 0 B fs ap → w.cell? ⟨bf, off + 2, none⟩ = some (.slice ao o.len cao) → bf < B → Fat w 0 B o ao → o.len ≤ 1048576 → En w br R n ae vars → (∀ g, R g → g < w.heap.size) → vars.length ≤ 412 + s →
    Calls Tryz.prog 69 #[.pointer (some ⟨br, 0, none⟩), .pointer (some ⟨bf, off, none⟩), .slice ae vars.length ce] w (SLRes br bp op R n o.len w (lisX fs n f c o vars s o.len))

set_option maxRecDepth 100000 in
set_option maxHeartbeats 6400000 in
theorem sOuts {fs : List Fn} {ap : Option Addr} {capp br bp op n B f : Nat} (hBr : B ≤ br) (hbp : bp < B) (hV : PS fs ap capp br bp op n B f) : PSO fs ap capp br bp op n B f := by
  intro R fi o ao cao bf off ae ce vars s c w hf hs hfi ht hR hp hP hfc hbf hF hol hE hRb hvl
  obtain ⟨i1, hj, hy0, hy1, hy2⟩ := info_parts infoRowE
  have hbw := cell_lt hR.c0
  have b0 : Below w.heap.size w (w.alloc (.cells #[] 25)) := (Below.refl _ _).alloc (Nat.le_refl _) _
  have HO0 : Hid (Eo (w.alloc (.cells #[] 25)) w.heap.size br R n w.heap.size 0 0 []) := ⟨⟨[], World.ownsRow_made w #[] 0 (Nat.le_refl _) (by unfold maxLen; omega) rfl, fun i h => absurd h (Nat.not_lt_zero _)⟩, rfl, fun i h => absurd h (Nat.not_lt_zero _), fun i h => absurd h (Nat.not_lt_zero _)⟩
  have HK0 : Hid (Kp (fun b => b = br) w (w.alloc (.cells #[] 25))) := Kp.of_below b0
  have HR0 : Hid (RnAt (w.alloc (.cells #[] 25)) br bp op n (lisX fs n f c o vars s 0).s (lisX fs n f c o vars s 0).c) := by
    have e1 : (lisX fs n f c o vars s 0).s = s := by unfold lisX; split <;> rfl
    have e2 : (lisX fs n f c o vars s 0).c = c := by unfold lisX; split; (rename_i h; rw [h]; rfl); rfl
    show RnAt _ _ _ _ _ _ _
    rw [e1, e2]; exact hR.next b0
  have HL0 : Hid ((lisX fs n f c o vars s 0).c = 0 → ([] : List (List Int)) = (lisX fs n f c o vars s 0).l) := by
    intro _; unfold lisX; split <;> rfl
  have HP := Lib.hid hP
  have HF := Lib.hid hF
  have HE := Lib.hid hE
  clear hP hF hE hR b0
  go_enter Tryz.func69, Tryz.ntmps69
  go_wp2_with fail
  go_loopw [7, 8] (fun lv x wr => ∃ (i g kg : Nat) (vs : List (List Int)), i ≤ o.len ∧ x = .int .i64 i ∧ lv = .slice (some ⟨g, 0, none⟩) i kg ∧ Hid (Eo wr w.heap.size br R n g kg i vs) ∧ Hid (Kp (fun b => b = br) w wr) ∧ Hid (RnAt wr br bp op n (lisX fs n f c o vars s i).s (lisX fs n f c o vars s i).c) ∧ Hid ((lisX fs n f c o vars s i).c = 0 → vs = (lisX fs n f c o vars s i).l)) (fun _ x _ => o.len - (intOf x).toNat)
  case atStart => exact ⟨0, w.heap.size, 0, [], Nat.zero_le _, rfl, rfl, HO0.out, HK0.out, HR0.out, HL0.out⟩
  case round =>
    obtain ⟨i, g, kg, vs, hi, rfl, rfl, HO, HK, HR, HL⟩ := hrel
    clear HO0 HK0 HR0 HL0
    have hfw : wr.cell? ⟨bf, off + 2, none⟩ = some (.slice ao o.len cao) := HK.out.cell hfc (by omega)
    by_cases hlt : i < o.len
    · have hii : (i : Int) < (o.len : Int) := by omega
      have hFw := HF.out.keepE HK.out hBr hbw
      obtain ⟨b, oo, rfl, hbB⟩ := hFw.blk (by omega)
      obtain ⟨k, nn, p, cc, kk, a', cap', hd, hRR, hkl, x0, x1, x2, x3, x4, hFk⟩ := Fat.node hFw hlt
      obtain ⟨v1, v2⟩ := treeB_at o 0 i ht hd
      have hm : more 0 (0 + i) = 0 := by unfold more; rw [if_neg (by omega)]
      rw [hm, Int.add_zero] at v1 v2
      have hst := lisX_stp (fs := fs) (n := n) (c := c) (o := o) (vars := vars) hf hs i
      have hzr := HK.out.size
      have hgb := HO.out.base
      have HC := Lib.hid (hV R fi k nn p cc kk a' cap' b (oo + i * 5) ae ce vars (lisX fs n f c o vars s i).s (lisX fs n f c o vars s i).c wr (by omega) hst.2 hfi v1 v2 HR.out (HK.out.cell hp (by omega)) (HP.out.keepE HK.out hBr hbw) ⟨x0, x1, x2, x3, x4⟩ (by omega) hFk hkl (HE.out.keep HK.out) (fun g hg => Nat.lt_of_lt_of_le (hRb g hg) hzr) (by omega))
      obtain ⟨st1, st2, st3⟩ := lisX_step (fs := fs) (n := n) (f := f) (c := c) (vars := vars) (s := s) hd
      have HS1 := Lib.hid st1
      have HS2 := Lib.hid st2
      have HS3 := Lib.hid st3
      clear st1 st2 st3 v1 v2 hRR hFk hFw x0 x1 x2 x3 x4
      go_wp2_with fail
      refine HC.out.mono ?_; rintro e w2 ⟨k2, r2, a2, cap2, v, rfl, hvn, hvm, hvs, hvx, hve⟩
      have hO2 := HO.out.keep k2 hbw
      have hgb2 := hO2.base
      obtain ⟨us, hu1, hu2⟩ := hO2.top
      have hul : us.length = i := by have := hu1.1; omega
      have hz2 := k2.size
      have HU2 := Lib.hid hu2
      have HOL := Lib.hid (And.intro hO2.vl (And.intro hO2.len hO2.nums))
      have hK2 := HK.out.trans k2
      clear hu2 HO HK hO2
      go_wp2_with (at_builtin; refine wpList_append_lies _ rfl _ _ _ rfl w.heap.size 25 i1 _ 1 24 Tryz.underlying47 hj hy0 hy1 hy2 rfl (by omega) (.slice (some ⟨g, 0, none⟩) i kg) i us rfl (hu1.alloc _) ⟨w2.heap.size, 0, none⟩ 1 1 [.slice a2 n cap2] rfl rfl (World.news_of_block (cs := #[.slice a2 n cap2]) (t := 25) (fr := (0, 0)) (heap_alloc_new w2 _)) (by simp [Value.oneCell']) (by omega) (by unfold maxLen; omega) (by omega) (by simp; omega) (w2.heap.size + 1) (by simp) ?_; intro gg cg w4 hown4 hgrow hat hlt4)
      have hba : Below w2.heap.size w2 (w2.alloc (.cells #[.slice a2 n cap2] 25)) := (Below.refl _ _).alloc (Nat.le_refl _) _
      have hgg : gg = g ∨ w2.heap.size ≤ gg := by
        rcases hat with e | e
        · left; simp [Value.ownBlock] at e; exact e.symm
        · right; omega
      have HN := Lib.hid (eo_push HOL.out.1 HOL.out.2.1 HOL.out.2.2 hul HU2.out hba hown4 hgrow hgg hvs hvn hvm (fun gb hg => by rcases hvx gb hg with h | h; (exact ⟨by have := hRb gb h; omega, .inl h⟩); exact ⟨by omega, .inr (by omega)⟩))
      have HKN : Hid (Kp (fun b => b = br) w w4) := kp_grown (g := g) (hK2.more hba) hgrow hgb.1
      have HRN : Hid (RnAt w4 br bp op n (lisX fs n f c o vars s (i + 1)).s (lisX fs n f c o vars s (i + 1)).c) := by show RnAt _ _ _ _ _ _ _; rw [HS1.out, HS2.out]; exact (r2.next hba).grown (g := g) hgrow (by omega)
      have HLN : Hid ((lisX fs n f c o vars s (i + 1)).c = 0 → vs ++ [v] = (lisX fs n f c o vars s (i + 1)).l) := by
        intro h
        obtain ⟨h1, h2⟩ := HS3.out h
        rw [h2, HL.out h1, hve (by rw [← HS2.out]; exact h)]
      clear hown4 hgrow hat hu1 HC hve hvs hvx HOL HU2
      go_wp2_with fail
      go_roundw
      case rel => exact ⟨i + 1, gg, cg, vs ++ [v], by omega, by go_num, rfl, HN.out, HKN.out, HRN.out, HLN.out⟩
      case measure => simp [intOf]; omega
    · have hii : ¬ (i : Int) < (o.len : Int) := by omega
      obtain rfl : i = o.len := by omega
      go_wp2_with fail
      go_ret
      exact ⟨HK.out, HR.out, g, kg, vs, rfl, HO.out, HL.out⟩

end Go.Proofs.YtoedccgiahegnaaGreat

namespace Go.Proofs.YtoedccgiahegnaaGreat
open Go.RowKit
set_option linter.unusedVariables false

theorem below_grownE {w w1 w2 : World} {L g : Nat} (h : Below L w w1) (hg : w1.grownBy w2 (some g)) (hL : L ≤ w.heap.size) (hb : L ≤ g) : Below L w w2 :=
  ⟨hg.os.trans h.os, hg.tape.trans h.tape, hg.output.trans h.output, Nat.le_trans h.size hg.size, fun q hq => (hg.block q (Nat.lt_of_lt_of_le hq (Nat.le_trans hL h.size)) (by simp; omega)).trans (h.block q hq)⟩
theorem take_snocE {l : List (List Int)} {i : Nat} (h : i < l.length) : l.take (i + 1) = l.take i ++ [l.getD i []] := by
  rw [List.take_add_one, List.getD_eq_getElem?_getD, List.getElem?_eq_getElem h]; simp
theorem gg_at {a b gg : Nat} {v : Value} (h : v.ownBlock = some gg ∨ gg = b + 1) (hv : v.ownBlock = some a) : gg = a ∨ b ≤ gg := by
  rcases h with e | e
  · left; rw [hv] at e; cases e; rfl
  · right; omega

set_option maxRecDepth 100000 in
set_option maxHeartbeats 6400000 in
theorem sEnv {br n : Nat} {R : Nat → Prop} (ae : Option Addr) (ce : Nat) (vars : List (List Int)) (a : Option Addr) (cap : Nat) (v : List Int) (w : World) (hE : En w br R n ae vars) (hRb : ∀ g, R g → g < w.heap.size) (hvl : vars.length ≤ 4000) (hv : Ls w br a v) (hvn : v.length = n) (hvm : Nums v) (hvr : ∀ gb, blk a v = some gb → R gb) :
    Calls Tryz.prog 107 #[.slice ae vars.length ce, .slice a n cap] w (fun e w' => Below w.heap.size w w' ∧ ∃ g kg, e = .returned (.slice (some ⟨g, 0, none⟩) (vars.length + 1) kg) ∧ Eo w' w.heap.size br R n g kg (vars.length + 1) (vars ++ [v])) := by
  obtain ⟨i1, hj, hy0, hy1, hy2⟩ := info_parts infoRowE
  have b0 : Below w.heap.size w (w.alloc (.cells #[] 25)) := (Below.refl _ _).alloc (Nat.le_refl _) _
  have HO0 : Hid (Eo (w.alloc (.cells #[] 25)) w.heap.size br R n w.heap.size 0 0 (vars.take 0)) := ⟨⟨[], World.ownsRow_made w #[] 0 (Nat.le_refl _) (by unfold maxLen; omega) rfl, fun i h => absurd h (Nat.not_lt_zero _)⟩, rfl, fun i h => absurd h (Nat.not_lt_zero _), fun i h => absurd h (Nat.not_lt_zero _)⟩
  have HB0 := Lib.hid b0
  have HE := Lib.hid hE
  have HV := Lib.hid hv
  have HVR := Lib.hid hvr
  clear hE hv b0 hvr
  go_enter Tryz.func107, Tryz.ntmps107
  go_wp2_with fail
  go_loopw [5, 6] (fun lv x wr => ∃ (i g kg : Nat), i ≤ vars.length ∧ x = .int .i64 i ∧ lv = .slice (some ⟨g, 0, none⟩) i kg ∧ Hid (Eo wr w.heap.size br R n g kg i (vars.take i)) ∧ Hid (Below w.heap.size w wr)) (fun _ x _ => vars.length - (intOf x).toNat)
  case atStart => exact ⟨0, w.heap.size, 0, Nat.zero_le _, rfl, rfl, HO0.out, HB0.out⟩
  case round =>
    obtain ⟨i, g, kg, hi, rfl, rfl, HO, HB⟩ := hrel
    clear HO0 HB0
    have hgb := HO.out.base
    have hzr := HB.out.size
    obtain ⟨us, hu1, hu2⟩ := HO.out.top
    have hul : us.length = i := by have := hu1.1; omega
    have HU2 := Lib.hid hu2
    have HOL := Lib.hid (And.intro HO.out.vl (And.intro HO.out.len HO.out.nums))
    clear hu2 HO
    by_cases hlt : i < vars.length
    · have hii : (i : Int) < (vars.length : Int) := by omega
      obtain ⟨b, off, rfl, hbn, hbw, hall⟩ := (HE.out.next HB.out).rows.resolve_left (by intro e; rw [e] at hlt; simp at hlt)
      obtain ⟨ai, ci, hcell, hls, hR⟩ := hall i hlt
      have HLS := Lib.hid hls
      have HRR := Lib.hid hR
      clear hall hls hR
      go_wp2_with (at_builtin; refine wpList_append_lies _ rfl _ _ _ rfl w.heap.size 25 i1 _ 1 24 Tryz.underlying47 hj hy0 hy1 hy2 rfl (by omega) (.slice (some ⟨g, 0, none⟩) i kg) i us rfl (hu1.alloc _) ⟨wr.heap.size, 0, none⟩ 1 1 [.slice ai n ci] rfl rfl (World.news_of_block (cs := #[.slice ai n ci]) (t := 25) (fr := (0, 0)) (heap_alloc_new wr _)) (by simp [Value.oneCell']) (by omega) (by unfold maxLen; omega) (by omega) (by simp; omega) (wr.heap.size + 1) (by simp) ?_; intro gg cg w4 hown4 hgrow hat hlt4)
      have hba : Below wr.heap.size wr (wr.alloc (.cells #[.slice ai n ci] 25)) := (Below.refl _ _).alloc (Nat.le_refl _) _
      have hgg : gg = g ∨ wr.heap.size ≤ gg := gg_at hat rfl
      have HN := Lib.hid (eo_push HOL.out.1 HOL.out.2.1 HOL.out.2.2 hul HU2.out hba hown4 hgrow hgg HLS.out (HE.out.len i hlt) (HE.out.nums i hlt) (fun gb hg => ⟨by have := hRb gb (HRR.out gb hg); omega, .inl (HRR.out gb hg)⟩))
      rw [← take_snocE hlt] at HN
      have HBN := Lib.hid (below_grownE (g := g) (HB.out.trans (hba.mono hzr)) hgrow (Nat.le_refl _) hgb.1)
      clear hown4 hgrow hat hu1 HOL HU2 HLS HRR
      go_wp2_with fail
      go_roundw
      case rel => exact ⟨i + 1, gg, cg, by omega, by go_num, rfl, HN.out, HBN.out⟩
      case measure => simp [intOf]; omega
    · have hii : ¬ (i : Int) < (vars.length : Int) := by omega
      obtain rfl : i = vars.length := by omega
      go_wp2_with (at_builtin; refine wpList_append_lies _ rfl _ _ _ rfl w.heap.size 25 i1 _ 1 24 Tryz.underlying47 hj hy0 hy1 hy2 rfl (by omega) (.slice (some ⟨g, 0, none⟩) vars.length kg) vars.length us rfl (hu1.alloc _) ⟨wr.heap.size, 0, none⟩ 1 1 [.slice a n cap] rfl rfl (World.news_of_block (cs := #[.slice a n cap]) (t := 25) (fr := (0, 0)) (heap_alloc_new wr _)) (by simp [Value.oneCell']) (by omega) (by unfold maxLen; omega) (by omega) (by simp; omega) (wr.heap.size + 1) (by simp) ?_; intro gg cg w4 hown4 hgrow hat hlt4)
      have hba : Below wr.heap.size wr (wr.alloc (.cells #[.slice a n cap] 25)) := (Below.refl _ _).alloc (Nat.le_refl _) _
      have hgg : gg = g ∨ wr.heap.size ≤ gg := gg_at hat rfl
      have HN := Lib.hid (eo_push HOL.out.1 HOL.out.2.1 HOL.out.2.2 hul HU2.out hba hown4 hgrow hgg (HV.out.next HB.out) hvn hvm (fun gb hg => ⟨by have := hRb gb (HVR.out gb hg); omega, .inl (HVR.out gb hg)⟩))
      rw [List.take_length] at HN
      have HBN := Lib.hid (below_grownE (g := g) (HB.out.trans (hba.mono hzr)) hgrow (Nat.le_refl _) hgb.1)
      clear hown4 hgrow hat hu1 HOL HU2
      go_wp2_with fail
      go_ret
      exact ⟨HBN.out, gg, cg, rfl, HN.out⟩

end Go.Proofs.YtoedccgiahegnaaGreat
