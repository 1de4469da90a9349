/- What lies at a place, and what stays there. A range over a function of the program's own, where the function hands out memory that it has made: the statement and one round, each by itself. Unit vectors one after the other: the iterator's contract. Regions that draw their order, in a round of a range over a function: what holds as everywhere holds there. Derivatives for all parameters: what is answered; numbers as values. Derivatives of all outputs for all parameters, by the program. -/
import Derived.RangeFuncLeaves
import Derived.RangeFuncSeq
import Derived.RangeFuncBound
import Derived.Below
import Derived.RangeFuncNested
import Derived.RangeFuncCalls
import Derived.Shelf.Abstract
import Derived.Shelf.RegionOpen
import Derived.WalkKit
import Derived.OwnWalkIn
import Derived.TacticsInMore
import Derived.LoopNIn
import Derived.LoopIn
import Derived.OrdersIn
import Derived.TacticsIn
import Derived.Deep.RegionWith
import Derived.Deep.RegionHeld3
import Derived.Deep.RegionLawGrows
import Derived.Deep.AppendLies
import Derived.Test.YtoedccgiahegnaaGreatDp
import Derived.Test.YtoedccgiahegnaaGreatHdq
import Derived.Test.YtoedccgiahegnaaGreatMq
namespace Go.Proofs.YtoedccgiahegnaaGreat
open Go.RowKit
set_option linter.unusedVariables false

/-- where a place keeps its fields -/
structure PlAt (w : World) (B : Nat) (ap : Option Addr) (fl capp : Nat) (nm : ByteArray) (pa : Int) (af : Option Addr) (mo cf : Nat) (aa : Option Addr) (al ca : Nat) : Prop where
  c0 : w.cell? ⟨B, 0, none⟩ = some ofN
  c1 : w.cell? ⟨B, 1, none⟩ = some (.slice ap fl capp)
  c2 : w.cell? ⟨B, 2, none⟩ = some (.string nm)
  c3 : w.cell? ⟨B, 3, none⟩ = some (.int .i64 pa)
  c4 : w.cell? ⟨B, 4, none⟩ = some (.slice af mo cf)
  c5 : w.cell? ⟨B, 5, none⟩ = some (.slice aa al ca)
  fz : w.frozen? ⟨B, 5, none⟩ = false
theorem PlAt.keep {S : Nat → Prop} {w w' : World} {B : Nat} {ap : Option Addr} {fl capp : Nat} {nm : ByteArray} {pa : Int} {af : Option Addr} {mo cf : Nat} {aa : Option Addr} {al ca : Nat} (h : PlAt w B ap fl capp nm pa af mo cf aa al ca) (k : Kp S w w') (hS : ¬ S B) : PlAt w' B ap fl capp nm pa af mo cf aa al ca :=
  ⟨k.cell h.c0 hS, k.cell h.c1 hS, k.cell h.c2 hS, k.cell h.c3 hS, k.cell h.c4 hS, k.cell h.c5 hS, (k.fz (cell_lt h.c0) hS).trans h.fz⟩
theorem PlAt.next {w w' : World} {B : Nat} {ap : Option Addr} {fl capp : Nat} {nm : ByteArray} {pa : Int} {af : Option Addr} {mo cf : Nat} {aa : Option Addr} {al ca : Nat} (h : PlAt w B ap fl capp nm pa af mo cf aa al ca) (k : Below w.heap.size w w') : PlAt w' B ap fl capp nm pa af mo cf aa al ca := h.keep (S := fun _ => False) (Kp.of_below k) (fun h => h)
theorem PlAt.put {w : World} {B : Nat} {ap : Option Addr} {fl capp : Nat} {nm : ByteArray} {pa : Int} {af : Option Addr} {mo cf : Nat} {aa : Option Addr} {al ca : Nat} (h : PlAt w B ap fl capp nm pa af mo cf aa al ca) (a2 : Option Addr) (l2 c2 : Nat) : PlAt (w.setCell ⟨B, 5, none⟩ (.slice a2 l2 c2)) B ap fl capp nm pa af mo cf a2 l2 c2 :=
  ⟨(World.cell?_setCell_other _ _ _ _ (by simp)).trans h.c0, (World.cell?_setCell_other _ _ _ _ (by simp)).trans h.c1, (World.cell?_setCell_other _ _ _ _ (by simp)).trans h.c2, (World.cell?_setCell_other _ _ _ _ (by simp)).trans h.c3, (World.cell?_setCell_other _ _ _ _ (by simp)).trans h.c4, World.cell?_setCell_same _ _ _ h.c5, (World.frozen?_setCell _ _ _ _).trans h.fz⟩
theorem Own.capM {L g cap : Nat} {w : World} {l : List Int} (h : Own L w g cap l) : cap ≤ 9223372036854775807 := by
  rcases h.2 with ⟨h1, _⟩ | ⟨g', cap', cur, hv, _, _, hc, hm, _⟩
  · cases h1
  · cases hv; unfold maxLen at hm; omega
/-- a list that lies elsewhere than in the blocks S -/
theorem At.keptS {S : Nat → Prop} {w w' : World} {a : Option Addr} {l : List Int} (h : At w a l) (k : Kp S w w') (hn : ∀ b, blk a l = some b → ¬ S b) : At w' a l := by
  by_cases hl : l = []
  · exact .inl hl
  · obtain ⟨b, off, rfl, hb, hc⟩ := h.resolve_left hl
    have hS : ¬ S b := hn b (by simp [blk, hl])
    exact .inr ⟨b, off, rfl, Nat.lt_of_lt_of_le hb k.size, fun i hi => k.cell (hc i hi) hS⟩

end Go.Proofs.YtoedccgiahegnaaGreat

namespace Go.Proofs.YtoedccgiahegnaaGreat
open Go Go.RowKit
set_option linter.unusedVariables false

namespace Rg
variable {F : Fence} {n : Nat} {P : Program}

/-- what a loop lays: the function it stands in, its temporaries, where yield's arguments go, the code of a round, its two blocks -/
structure Loop where
  fn : FuncId
  tmps : Array Value
  ps : Array Tmp
  ac : Code
  bd : Code
  D : Nat
  l : Nat
abbrev Loop.rc (R : Loop) (st : LoopState) (pe : Option Code) : Obj := .loop { state := st, pending := pe, fn := R.fn, tmps := R.tmps, params := R.ps, assign := R.ac, body := R.bd, defers := R.D }
/-- the record lies at l, the block for deferred calls at D -/
structure At (R : Loop) (st : LoopState) (pe : Option Code) (W : World) : Prop where
  ne : R.D ≠ R.l
  rc : W.heap[R.l]? = some (R.rc st pe)
  df : W.heap[R.D]? = some (.deferred (some []))
theorem At.same {R : Loop} {st : LoopState} {pe : Option Code} {W W' : World} (h : At R st pe W) (hl : W'.heap[R.l]? = W.heap[R.l]?) (hd : W'.heap[R.D]? = W.heap[R.D]?) : At R st pe W' := ⟨h.ne, hl.trans h.rc, hd.trans h.df⟩
theorem At.lt {R : Loop} {st : LoopState} {pe : Option Code} {W : World} (h : At R st pe W) : R.l < W.heap.size := (Array.getElem?_eq_some_iff.1 h.rc).1
theorem At.ltD {R : Loop} {st : LoopState} {pe : Option Code} {W : World} (h : At R st pe W) : R.D < W.heap.size := (Array.getElem?_eq_some_iff.1 h.df).1
theorem At.below {R : Loop} {st : LoopState} {pe : Option Code} {W W' : World} (h : At R st pe W) (hb : Below W.heap.size W W') : At R st pe W' := h.same (hb.block R.l h.lt) (hb.block R.D h.ltD)
/-- the record turns -/
theorem At.put {R : Loop} {st : LoopState} {pe : Option Code} {W : World} (h : At R st pe W) (st' : LoopState) (pe' : Option Code) : At R st' pe' (W.putObj R.l (R.rc st' pe')) :=
  ⟨h.ne, World.putObj_heap_same h.lt, (World.putObj_heap_other h.ne).trans h.df⟩

/-- **the statement, outermost**: the function is called with yield; behind it the loop is over, or the jump that a round has left is taken -/
theorem enter {g : Operand} {ps : Array Tmp} {ac bd : Code} {Q : Exit → Act → World → Prop} {a : Act} {w : World} (hro : F.round = none) (h1 : 1 ≤ n) {gf : Nat} {lb : Array Value}
    (hg : a.eval g = .func (.func gf) #[] lb) (hFg : F.fn gf) (eg : ∀ args w, (callFunc gf args).run P w = .ok (.enter gf args) w)
    (h : ∀ (R : Loop) (W1 : World), F.fn R.fn → R.tmps = a.tmps → R.ps = ps → R.ac = ac → R.bd = bd → R.D = w.heap.size → R.l = w.heap.size + 1 → Below w.heap.size w W1 → W1.heap.size = w.heap.size + 2 → At R .ready none W1 →
      CallsIn F (n - 1) P gf (#[.func (.yield (w.heap.size + 1)) #[] #[]] ++ lb) W1 fun e W2 => (∃ v, e = .returned v) ∧
        ((At R .ready none W2 ∧ Q .normal { a with defers := { target := .collected w.heap.size, args := #[] } :: a.defers } (W2.putObj R.l (R.rc .exhausted none))) ∨
         (∃ c, At R .done (some c) W2 ∧ c.wpIn F n P Q { a with defers := { target := .collected w.heap.size, args := #[] } :: a.defers } (W2.putObj R.l (R.rc .exhausted (some c)))))) :
    (Code.rangeFunc g ps ac bd).wpIn F n P Q a w := by
  refine wpIn_rangeFunc fun fn hfn => ?_
  rw [hro]
  obtain ⟨R, hR⟩ : ∃ R : Loop, R = ⟨fn, a.tmps, ps, ac, bd, w.heap.size, w.heap.size + 1⟩ := ⟨_, rfl⟩
  obtain ⟨W1, hW1⟩ : ∃ W1, (w.alloc (.deferred (some []))).alloc (R.rc .ready none) = W1 := ⟨_, rfl⟩
  have hb : Below w.heap.size w W1 := by rw [← hW1]; exact ((Below.refl _ w).alloc (Nat.le_refl _) _).alloc (by simp) _
  have hz : W1.heap.size = w.heap.size + 2 := by rw [← hW1]; simp
  have el : R.l = w.heap.size + 1 := by rw [hR]
  have eD : R.D = w.heap.size := by rw [hR]
  have hA : At R .ready none W1 := by
    refine ⟨by omega, ?_, ?_⟩
    · rw [← hW1, el]
      have e := World.alloc_heap_new (w.alloc (.deferred (some []))) (R.rc .ready none)
      rw [World.size_alloc] at e
      exact e
    · rw [← hW1, eD]
      exact (Below.heap_alloc _ _ _ (by simp)).trans (World.alloc_heap_new w _)
  refine ⟨_, _, W1, { target := .fn (.func gf) lb, args := #[.func (.yield (w.heap.size + 1)) #[] #[]] }, W1, gf, _, W1, (run_enterLoop_outer _ _ _ _ _).trans (by rw [← hW1, hR]), ?_, ?_, ?_, fun _ => h1,
    (h R W1 (by rw [hR]; exact hfn) (by rw [hR]) (by rw [hR]) (by rw [hR]) (by rw [hR]) eD el hb hz hA).mono ?_⟩
  · simp only [resolve, hg]
    simp [go_sem]
  · intro f' hf'
    simp [Target.leads] at hf'
    rw [← hf']; exact hFg
  · simp [invoke, go_sem, eg]
  · rw [← el]
    rintro e W2 ⟨⟨v, rfl⟩, (⟨hr, hq⟩ | ⟨c, hr, hq⟩)⟩
    · exact ⟨none, _, run_endLoop hr.rc (by simp), hq⟩
    · exact ⟨some c, _, run_endLoop hr.rc (by simp), hq⟩

/-- how a round may be left -/
def post (G : Ending → World → Prop) (R : Loop) : Exit → Act → World → Prop
  | .normal, _, W => At R .busy none W ∧ G (.returned (.bool true)) (W.putObj R.l (R.rc .ready none))
  | .ret, _, W => At R .busy none W ∧ G (.returned (.bool false)) (W.putObj R.l (R.rc .done (some .ret)))
  | _, _, _ => False

/-- **one round**: the loop's variables are assigned, the record is busy, the body runs -/
theorem round {R : Loop} {args : Array Value} {W : World} {G : Ending → World → Prop} (hfn : F.fn R.fn) (hA : At R .ready none W) (hs : args.size = R.ps.size)
    (h : R.ac.wpIn (F.inRound R.l) n P (Exit.then (fun a₁ W₁ => At R .ready none W₁ ∧ R.bd.wpIn (F.inRound R.l) n P (post G R) a₁ (W₁.putObj R.l (R.rc .busy none))) (fun _ _ _ => False))
      { tmps := (R.ps.zip args).foldl (fun t (p, v) => t.setIfInBounds p v) R.tmps, defers := [] } W) :
    YieldAt F n P R.l args W G := by
  refine ⟨R.fn, _, R.ac, R.bd, run_yield hA.rc hs, roundIn_of_wpIn hfn (wpIn_mono h ?_)⟩
  intro e a₁ W₁ hp
  cases e with
  | normal =>
    obtain ⟨hA₁, hb⟩ := hp
    refine ⟨_, run_beginRound hA₁.rc rfl, wpIn_mono hb ?_⟩
    intro e₂ a₂ W₂ hq
    cases e₂ with
    | normal => exact ⟨_, _, run_endRound none hq.1.rc, hq.2⟩
    | ret => exact ⟨_, _, run_endRound (some .ret) hq.1.rc, hq.2⟩
    | exit id => exact hq.elim
    | goto t => exact hq.elim
    | panic ch => exact hq.elim
    | outgrown => exact hq.elim
  | ret => exact hp.elim
  | exit id => exact hp.elim
  | goto t => exact hp.elim
  | panic ch => exact hp.elim
  | outgrown => exact hp.elim

end Rg

end Go.Proofs.YtoedccgiahegnaaGreat

namespace Go.Proofs.YtoedccgiahegnaaGreat
open Go Go.RowKit Go.Shelf
set_option linter.unusedVariables false
attribute [local go_sem] Oper.semAt_some

set_option maxRecDepth 100000 in
theorem iUnits (n k m : Int) (w : World) :
    Calls Tryz.prog 102 #[.int .i64 n, .int .i64 k, .int .i64 m] w fun e w' => e = .returned (.func (.func 126) #[] #[.pointer (some ⟨w.heap.size + 1, 0, none⟩), .pointer (some ⟨w.heap.size + 2, 0, none⟩), .pointer (some ⟨w.heap.size, 0, none⟩)]) ∧ Below w.heap.size w w' ∧ w.heap.size + 2 < w'.heap.size ∧
      w'.cell? ⟨w.heap.size, 0, none⟩ = some (.int .i64 n) ∧ w'.cell? ⟨w.heap.size + 1, 0, none⟩ = some (.int .i64 k) ∧ w'.cell? ⟨w.heap.size + 2, 0, none⟩ = some (.int .i64 m) := by
  obtain ⟨w1, hw1⟩ : ∃ w1, ((w.alloc (.cells #[.int .i64 n] 2)).alloc (.cells #[.int .i64 k] 2)).alloc (.cells #[.int .i64 m] 2) = w1 := ⟨_, rfl⟩
  have b1 : Below w.heap.size w w1 := by rw [← hw1]; exact (((Below.refl _ _).alloc (Nat.le_refl _) _).alloc (by simp) _).alloc (by simp; omega) _
  have z1 : w1.heap.size = w.heap.size + 3 := by rw [← hw1]; simp
  have x0 : w1.cell? ⟨w.heap.size, 0, none⟩ = some (.int .i64 n) := by rw [← hw1]; simp [go_sem]
  have x1 : w1.cell? ⟨w.heap.size + 1, 0, none⟩ = some (.int .i64 k) := by rw [← hw1]; simp [go_sem]
  have x2 : w1.cell? ⟨w.heap.size + 2, 0, none⟩ = some (.int .i64 m) := by rw [← hw1]; simp [go_sem]
  have Z1 := Lib.hid z1
  clear z1
  go_enter Tryz.func102, Tryz.ntmps102
  go_wp2_with fail
  go_ret
  exact ⟨rfl, b1, by rw [Z1.out]; omega, x0, x1, x2⟩

set_option maxRecDepth 100000 in
set_option maxHeartbeats 3200000 in
/-- the iterator: what the rounds keep (J), how one may leave (Jx) -/
theorem unitsIn (l n : Nat) (hn : n ≤ 1048576) (B1 B2 B3 : Nat) (J : Nat → World → Prop) (Jx : World → Prop)
    (hJc : ∀ k W, J k W → W.cell? ⟨B1, 0, none⟩ = some (.int .i64 0) ∧ W.cell? ⟨B2, 0, none⟩ = some (.int .i64 n) ∧ W.cell? ⟨B3, 0, none⟩ = some (.int .i64 n))
    (hY : ∀ k W1 W g, k < n → J k W1 → Below W1.heap.size W1 W → Own W1.heap.size W g n (unitV n k) → YieldAt Fence.wide 1 Tryz.prog l #[.int .i64 k, .slice (some ⟨g, 0, none⟩) n n] W fun e W' => (e = .returned (.bool true) ∧ J (k + 1) W') ∨ (e = .returned (.bool false) ∧ Jx W'))
    (W : World) (h0 : J 0 W) :
    CallsIn Fence.wide 2 Tryz.prog 126 #[.func (.yield l) #[] #[], .pointer (some ⟨B1, 0, none⟩), .pointer (some ⟨B2, 0, none⟩), .pointer (some ⟨B3, 0, none⟩)] W fun e W' => (∃ v, e = .returned v) ∧ (J n W' ∨ Jx W') := by
  obtain ⟨c1, c2, c3⟩ := hJc 0 W h0
  refine callsIn_of_wp Tryz.func126 rfl trivial ?_ rfl
  simp only [Tryz.ntmps126, List.size_toArray, List.length_cons, List.length_nil, Nat.reduceAdd, Nat.reduceSub, Array.replicate_succ, Array.replicate_zero, List.push_toArray, List.append_toArray, List.nil_append, List.cons_append]
  gi_wp2
  gi_loopw [5] (fun p wr => ∃ k : Nat, k ≤ n ∧ p = .int .i64 k ∧ Hid (J k wr)) (fun p _ => n - (intOf p).toNat)
  case atStart => exact ⟨0, Nat.zero_le _, rfl, h0⟩
  case round =>
    obtain ⟨k, hk, rfl, hJk⟩ := hrel
    obtain ⟨d1, d2, d3⟩ := hJc k wr hJk.out
    clear c1 c2 c3
    by_cases hlt : k < n
    · have hii : (k : Int) < (n : Int) := by omega
      have HU := Lib.hid (iUnit n k hlt hn wr)
      gi_wp2
      refine ⟨trivial, ?_⟩
      refine (callsIn_wide.2 HU.out).mono ?_; rintro e w2 ⟨g, rfl, ho, hb⟩
      obtain ⟨fn, tmps, assign, body, hy, hR⟩ := hY k wr w2 g hlt hJk.out hb ho
      clear HU ho hJk hJc hY
      gi_wp2
      refine hR.mono ?_
      rintro e W3 (⟨rfl, hJ3⟩ | ⟨rfl, hJx3⟩)
      · gi_wp2
        go_roundw
        case rel => exact ⟨k + 1, by omega, by go_num, hJ3⟩
        case measure => simp [intOf]; omega
      · gi_wp2
        refine bodyPost_ret (results_none rfl _ _ _) rfl ?_
        exact ⟨⟨_, rfl⟩, .inr hJx3⟩
    · have hii : ¬ (k : Int) < (n : Int) := by omega
      obtain rfl : k = n := by omega
      gi_wp2
      go_end0
      exact ⟨⟨_, rfl⟩, .inl hJk.out⟩

end Go.Proofs.YtoedccgiahegnaaGreat

namespace Go.Proofs.YtoedccgiahegnaaGreat
open Go Go.RowKit
set_option linter.unusedVariables false

section
variable {P : Program} {ops : Array Oper} {Q : Exit → Act → World → Prop} {md : Region.Mode}
theorem rowsRound {l n : Nat} {row : String} {args : Array Value} {w : World} {R : Value → World → Prop} (h : Rows P row args w R) : RowsIn (Fence.wide.inRound l) n P row args w R :=
  fun c cs _ => let ⟨v, w', r, s⟩ := h c cs; ⟨v, w', r, stepsIn_wide.2 s⟩
theorem operRound {l n : Nat} {o : Oper} {a : Act} {w : World} {K : Act → World → Prop} (hd : ∀ c, o.op ≠ .defer c) (h : Oper.wp P o a w K Q) : Oper.wpIn (Fence.wide.inRound l) n P o a w K Q := by
  refine ⟨fun f _ => trivial, ?_⟩
  show Oper.uponIn _ n P o a K Q ((Oper.semAt (some l) a.eval o).run P w)
  rw [Oper.semAt_some l a.eval o hd]
  unfold Oper.wp at h
  generalize (execOp a.eval o).run P w = r at h ⊢
  cases r with
  | ok x w' =>
    cases x with
    | value v => exact h
    | skip => exact h
    | defer d => exact h
    | enter f args => exact ⟨fun e => (by cases e), CallsIn.inRound l (callsIn_wide.2 h)⟩
    | row r args => exact ⟨fun e => (by cases e), rowsRound h⟩
    | _ => exact h.elim
  | halt x w' => cases x <;> exact h
theorem wpOpRound {l n i : Nat} {a : Act} {w : World} {K : Act → World → Prop} (hL : ¬ LetsOut Q) (hd : ∀ (j : Nat) (o : Oper) c, ops[j]? = some o → o.op ≠ .defer c) (h : wpOp P ops Q i K a w) : wpOpIn (Fence.wide.inRound l) n P ops Q i K a w := by
  unfold wpOpIn
  unfold wpOp at h
  split
  · rename_i e; simp only [e] at h; exact h
  · rename_i o e
    simp only [e] at h
    split
    · rename_i hw; simp only [hw, if_true] at h; exact operRound (fun c => hd i o c e) (h.resolve_right (fun h2 => hL h2.2))
    · rename_i hw; simp only [hw] at h; exact ⟨fun f _ => trivial, h⟩
theorem wpAnyRound {l n : Nat} (hL : ¬ LetsOut Q) (hd : ∀ (j : Nat) (o : Oper) c, ops[j]? = some o → o.op ≠ .defer c) : ∀ (f : Nat) (listed : Array Bool) (a : Act) (w : World), wpAny P md ops Q f listed a w → wpAnyIn (Fence.wide.inRound l) n P md ops Q f listed a w := by
  intro f
  induction f with
  | zero => intro _ _ _ h; exact h
  | succ f ih => intro listed a w h; exact ⟨h.1, fun j hj => wpOpRound hL hd (wpOp_mono (fun b v h' => ih _ b v h') (h.2 j hj))⟩
def noDefer (ops : Array Oper) : Bool := ops.all fun o => match o.op with | .defer _ => false | _ => true
theorem noDefer_spec (h : noDefer ops = true) : ∀ (j : Nat) (o : Oper) c, ops[j]? = some o → o.op ≠ .defer c := by
  intro j o c hj e
  unfold noDefer at h
  have hm := (Array.all_eq_true_iff_forall_mem.1 h) o (Array.mem_of_getElem? hj)
  rw [e] at hm
  cases hm
/-- a region that draws its order, in a round -/
theorem region_TR {id l m : Nat} {a : Act} {w : World} (n : Nat) (S : World → Prop) (hm : P.follows .mixedOrders = true) (hnd : noDefer ops = true) (hL : ¬ LetsOut Q) (hS : S w.drew)
    (hQ : ∀ c (a : Act) d v w, Q (.panic c) (a.put d v) w → Q (.panic c) a w)
    (h : PQ Q → S w.drew → AnyT P .any ops Q S n ops.size (Array.replicate ops.size false) a w.drew) : (Code.region id ops true).wpIn (Fence.wide.inRound l) m P Q a w :=
  wpIn_region_any hm (wpAnyRound hL (noDefer_spec hnd) _ _ _ _ (AnyT.any _ _ _ _ (h hQ hS)))
end

end Go.Proofs.YtoedccgiahegnaaGreat

namespace Go.Proofs.YtoedccgiahegnaaGreat
open Go.RowKit
set_option linter.unusedVariables false

/-- the derivative of an output for a parameter -/
def slU (fs : List Fn) (j : Nat) (args : List Int) (u k : Nat) : Int := ((alL fs j args (unitV args.length u)).l.getD k (0, 0)).2
/-- rows: behind so many parameters, and one more for the first m outputs -/
def jaR (f : Nat → Nat → Int) (mo i m : Nat) : List (List Int) := (List.range mo).map fun k => (List.range (if k < m then i + 1 else i)).map fun u => f u k
theorem jaR_len (f : Nat → Nat → Int) (mo i m : Nat) : (jaR f mo i m).length = mo := by simp [jaR]
theorem jaR_at {f : Nat → Nat → Int} {mo i m k : Nat} (h : k < mo) : (jaR f mo i m).getD k [] = (List.range (if k < m then i + 1 else i)).map fun u => f u k := by
  unfold jaR
  rw [List.getD_eq_getElem?_getD, List.getElem?_map, List.getElem?_range h]; rfl
theorem jaR_full {f : Nat → Nat → Int} {mo i : Nat} : jaR f mo i mo = jaR f mo (i + 1) 0 := by
  unfold jaR
  refine List.map_congr_left fun k hk => ?_
  rw [if_pos (List.mem_range.1 hk), if_neg (Nat.not_lt_zero _)]
theorem jaR_step {f : Nat → Nat → Int} {mo i m : Nat} (h : m < mo) (q : Nat) (hq : q < mo) : (jaR f mo i (m + 1)).getD q [] = if q = m then (jaR f mo i m).getD m [] ++ [f i m] else (jaR f mo i m).getD q [] := by
  rw [jaR_at hq, jaR_at h, jaR_at hq]
  by_cases e : q = m
  · subst e
    rw [if_pos rfl, if_pos (Nat.lt_succ_self _), if_neg (Nat.lt_irrefl _), List.range_succ, List.map_append]; rfl
  · rw [if_neg e]
    have : q < m + 1 ↔ q < m := by omega
    simp only [this]
/-- the first code that is not 0 -/
def jaC (fs : List Fn) (j : Nat) (args : List Int) : Nat → Int
  | 0 => 0
  | i + 1 => if jaC fs j args i = 0 then (alL fs j args (unitV args.length i)).c else jaC fs j args i
theorem jaC_go {fs : List Fn} {j : Nat} {args : List Int} {i : Nat} (h : jaC fs j args i = 0) (h2 : (alL fs j args (unitV args.length i)).c = 0) : jaC fs j args (i + 1) = 0 := by rw [jaC, if_pos h, h2]
theorem jaC_bad {fs : List Fn} {j : Nat} {args : List Int} {i : Nat} (h : jaC fs j args i = 0) (h2 : ¬ (alL fs j args (unitV args.length i)).c = 0) : ∀ k, jaC fs j args (i + 1 + k) = (alL fs j args (unitV args.length i)).c
  | 0 => by rw [Nat.add_zero, jaC, if_pos h]
  | k + 1 => by
    have ih := jaC_bad h h2 k
    rw [← Nat.add_assoc, jaC, ih, if_neg h2]
/-- rows and a code -/
def jaA (fs : List Fn) (j : Nat) (args : List Int) : List (List Int) := if jaC fs j args args.length = 0 then jaR (slU fs j args) (fs.getD j noFn).outs.len args.length 0 else []
def JaRes (w : World) (L : List (List Int)) (c : Int) (e : Ending) (w' : World) : Prop :=
  ∃ a ca, e = .returned (.tuple #[.slice a L.length ca, .int .i64 c]) ∧ MqA w' w.heap.size a ca L ∧ Below w.heap.size w w'

set_option maxRecDepth 100000 in
set_option maxHeartbeats 3200000 in
theorem iConstants (da : Option Addr) (cd n : Nat) (dir : List Int) (hd : dir.length = n) (hb : n ≤ 1048576) (ap : Option Addr) (fl capp : Nat) (nm : ByteArray) (pa : Int) (af : Option Addr) (mo cf : Nat) (aa : Option Addr) (al ca : Nat) (w : World) (hD : At w da dir) :
    Calls Tryz.prog 103 #[.agg #[ofN, .slice ap fl capp, .string nm, .int .i64 pa, .slice af mo cf, .slice aa al ca], .slice da n cd] w fun e w' => ∃ g, e = .returned (.slice (some ⟨g, 0, none⟩) n n) ∧ Own w.heap.size w' g n dir ∧ Below w.heap.size w w' := by
  obtain ⟨i0, hi, hz0, hz1, hz2⟩ := info_parts info64
  obtain ⟨w1, hw1⟩ : ∃ w1, w.alloc (.cells #[ofN, .slice ap fl capp, .string nm, .int .i64 pa, .slice af mo cf, .slice aa al ca] 65) = w1 := ⟨_, rfl⟩
  have b1 : Below w.heap.size w w1 := by rw [← hw1]; exact (Below.refl _ _).alloc (Nat.le_refl _) _
  have p0 : w1.cell? ⟨w.heap.size, 0, none⟩ = some ofN := by rw [← hw1]; simp [go_sem]
  have hs1 := b1.size
  have HD := Lib.hid (hD.below b1 (Nat.le_refl _))
  have HM := Lib.hid hd
  clear hD hd
  go_enter Tryz.func103, Tryz.ntmps103
  go_wp2_with (refine wpList_make_full _ rfl _ _ 25 rfl w1.heap.size 2 i0 (.int .i64 0) 1 Tryz.underlying25 hi hz0 hz1 .i64 .i64 _ _ n rfl rfl rfl rfl ?c2 ?c3 (Nat.le_refl _) ?_)
  case c2 => rw [hz2]; omega
  case c3 => unfold maxLen; omega
  intro w2 ho1 hg1
  clear hw1
  have b2 := (Below.refl w1.heap.size w1).grown hg1 (Nat.le_refl _) (by intro k hk; cases hk)
  have HO0 : Hid (Own w1.heap.size w2 w1.heap.size n (fillz n (dir.take 0))) := made_own ho1
  have HB0 : Hid (Below w1.heap.size w1 w2) := b2
  have nA1 := cstAhead
  have nA2 := cstMeth
  have HC := fun a W => Lib.hid (nConst a W)
  clear ho1 hg1 hi hz0 hz1 hz2 b2
  go_wp2_with fail
  go_loopw [6, 13] (fun _ x wr => ∃ i : Nat, i ≤ n ∧ x = .int .i64 i ∧ Hid (Own w1.heap.size wr w1.heap.size n (fillz n (dir.take i))) ∧ Hid (Below w1.heap.size w1 wr)) (fun _ x _ => n - (intOf x).toNat)
  case atStart => exact ⟨0, Nat.zero_le _, rfl, HO0.out, HB0.out⟩
  case round =>
    obtain ⟨i, hi, rfl, HO, HB⟩ := hrel
    clear HO0 HB0
    have hm1 := HM.out
    by_cases hlt : i < n
    · have hii : (i : Int) < (n : Int) := by omega
      obtain ⟨b2, o2, rfl, hbl2, hc2⟩ := ((HD.out.below HB.out (Nat.le_refl _)).resolve_left (by intro e; rw [e] at hm1; simp at hm1; omega))
      have h2 := hc2 i (by omega)
      have q0 := (HB.out.cell (p := ⟨w.heap.size, 0, none⟩) (cell_lt p0)).trans p0
      have hlen : (fillz n (dir.take i)).length = n := fillz_len (by rw [List.length_take]; omega)
      have hs2 : (fillz n (dir.take i)).set i (dir.getD i 0) = fillz n (dir.take (i + 1)) := by
        have e := fillz_set (n := n) (xs := dir.take i) (by rw [List.length_take]; omega) (dir.getD i 0)
        have e2 : (dir.take i).length = i := by rw [List.length_take]; omega
        rw [e2] at e
        rw [e, List.take_add_one, List.getD_eq_getElem?_getD, List.getElem?_eq_getElem (by omega)]; rfl
      have HSO : Hid (∀ W, Below wr.heap.size wr W → Own w1.heap.size (W.setCell ⟨w1.heap.size, i, none⟩ (.int .i64 (dir.getD i 0))) w1.heap.size n (fillz n (dir.take (i + 1)))) := fun W hW => by
        have := (HO.out.kept hW HO.out.base.2).set i (dir.getD i 0)
        rw [hs2] at this
        exact this
      have HCS : Hid (∀ W, Below wr.heap.size wr W → ∃ z, W.cell? ⟨w1.heap.size, i, none⟩ = some (.int .i64 z) ∧ W.frozen? ⟨w1.heap.size, i, none⟩ = false) := fun W hW => ⟨_, (HO.out.kept hW HO.out.base.2).cellAt i (by rw [hlen]; exact hlt), (HO.out.kept hW HO.out.base.2).frz i⟩
      have HBX : Hid (∀ W, Below wr.heap.size wr W → Below w1.heap.size w1 (W.setCell ⟨w1.heap.size, i, none⟩ (.int .i64 (dir.getD i 0)))) := fun W hW => (HB.out.trans (hW.mono HB.out.size)).setCell (p := ⟨w1.heap.size, i, none⟩) (Nat.le_refl _) _
      clear hs2 hlen hm1 hc2 HO HB HD
      generalize dir.getD i 0 = y at *
      go_wp2_with fail
      refine (HC y wr).out.mono ?_; rintro e w3 ⟨rfl, b3⟩
      obtain ⟨z, z1, z2⟩ := HCS.out w3 b3
      have HS3 := Lib.hid (HSO.out w3 b3)
      have HB3 := Lib.hid (HBX.out w3 b3)
      clear HSO HCS HBX b3
      go_wp2_with fail
      go_roundw
      case rel => exact ⟨i + 1, by omega, by go_num, HS3.out, HB3.out⟩
      case measure => simp [intOf]; omega
    · have hii : ¬ (i : Int) < (n : Int) := by omega
      obtain rfl : i = n := by omega
      have HX : Hid (Own w.heap.size wr w1.heap.size i dir) := by
        have := HO.out
        rw [List.take_of_length_le (by omega), fillz_full hm1] at this
        exact this.mono hs1
      have HF : Hid (Below w.heap.size w wr) := b1.trans (HB.out.mono hs1)
      clear hm1 HO
      go_wp2_with fail
      go_ret
      exact ⟨w1.heap.size, rfl, HX.out, HF.out⟩

end Go.Proofs.YtoedccgiahegnaaGreat

namespace Go.Proofs.YtoedccgiahegnaaGreat
open Go Go.RowKit Go.Shelf
set_option linter.unusedVariables false
attribute [local go_sem] Oper.semAt_some

/-- what lies in the boxes of 'slopes' -/
structure SlF (W : World) (z z2 n : Nat) (ap : Option Addr) (fl capp : Nat) (nm : ByteArray) (pa : Int) (af : Option Addr) (mo cf : Nat) (aa : Option Addr) (al ca : Nat) : Prop where
  le : z + 5 ≤ z2
  pl : PlAt W z ap fl capp nm pa af mo cf aa al ca
  r4 : W.cell? ⟨z + 1, 0, none⟩ = some (.slice none 0 0)
  f4 : W.frozen? ⟨z + 1, 0, none⟩ = false
  r5 : W.cell? ⟨z + 1 + 1, 0, none⟩ = some (.int .i64 0)
  f5 : W.frozen? ⟨z + 1 + 1, 0, none⟩ = false
  bx : W.cell? ⟨z + 1 + 1 + 1 + 1, 0, none⟩ = some (.slice (some ⟨z + 1 + 1 + 1, 0, none⟩) mo mo)
  k3 : W.cell? ⟨z2, 0, none⟩ = some (.int .i64 n)
  k1 : W.cell? ⟨z2 + 1, 0, none⟩ = some (.int .i64 0)
  k2 : W.cell? ⟨z2 + 2, 0, none⟩ = some (.int .i64 n)
theorem SlF.keep {S : Nat → Prop} {W W' : World} {z z2 n : Nat} {ap : Option Addr} {fl capp : Nat} {nm : ByteArray} {pa : Int} {af : Option Addr} {mo cf : Nat} {aa : Option Addr} {al ca : Nat} (h : SlF W z z2 n ap fl capp nm pa af mo cf aa al ca) (k : Kp S W W') (hS : ∀ b, b < z2 + 3 → b ≠ z + 1 + 1 + 1 → ¬ S b) : SlF W' z z2 n ap fl capp nm pa af mo cf aa al ca := by
  have hl := h.le
  exact ⟨h.le, h.pl.keep k (hS _ (by omega) (by omega)), k.cell h.r4 (hS _ (by omega) (by omega)), (k.fz (cell_lt h.r4) (hS _ (by omega) (by omega))).trans h.f4, k.cell h.r5 (hS _ (by omega) (by omega)), (k.fz (cell_lt h.r5) (hS _ (by omega) (by omega))).trans h.f5, k.cell h.bx (hS _ (by omega) (by omega)), k.cell h.k3 (hS _ (by omega) (by omega)), k.cell h.k1 (hS _ (by omega) (by omega)), k.cell h.k2 (hS _ (by omega) (by omega))⟩
theorem SlF.next {W W' : World} {z z2 n : Nat} {ap : Option Addr} {fl capp : Nat} {nm : ByteArray} {pa : Int} {af : Option Addr} {mo cf : Nat} {aa : Option Addr} {al ca : Nat} (h : SlF W z z2 n ap fl capp nm pa af mo cf aa al ca) (k : Below W.heap.size W W') : SlF W' z z2 n ap fl capp nm pa af mo cf aa al ca := h.keep (S := fun _ => False) (Kp.of_below k) (fun _ _ _ h => h)
theorem kpPut (W : World) (l : Nat) (o : Obj) : Kp (fun b => b = l) W (W.putObj l o) := Kp.grown (grownBy_putObj' W l o) (fun g e => by cases e; rfl)
theorem Rg.At.keep {S : Nat → Prop} {R : Rg.Loop} {st : LoopState} {pe : Option Code} {W W' : World} (h : Rg.At R st pe W) (k : Kp S W W') (hl : ¬ S R.l) (hD : ¬ S R.D) : Rg.At R st pe W' := h.same (k.block R.l h.lt hl) (k.block R.D h.ltD hD)
/-- the rows, and how far up they lie -/
def RwI (W : World) (z L : Nat) (mo : Nat) (ls : List (List Int)) : Prop := ∃ A K, Mq W z (z + 1 + 1 + 1) mo mo ls A K ∧ ∀ i, i < mo → ∀ p : Addr, A i = some p → L ≤ p.block
theorem RwI.keep {S : Nat → Prop} {W W' : World} {z L mo : Nat} {ls : List (List Int)} (h : RwI W z L mo ls) (k : Kp S W W') (hg : ¬ S (z + 1 + 1 + 1)) (hS : ∀ b, L ≤ b → b < W.heap.size → ¬ S b) : RwI W' z L mo ls := by
  obtain ⟨A, K, h1, h2⟩ := h
  exact ⟨A, K, h1.keep k hg (fun i hi p hp => hS _ (h2 i hi p hp) ((h1.row i hi).blk p hp).2), h2⟩
theorem RwI.next {W W' : World} {z L mo : Nat} {ls : List (List Int)} (h : RwI W z L mo ls) (k : Below W.heap.size W W') : RwI W' z L mo ls := h.keep (S := fun _ => False) (Kp.of_below k) (fun h => h) (fun _ _ _ h => h)

theorem leave_marked {P : Program} {F : Fence} {n : Nat} {fn : Func} {R : Ending → World → Prop} {tmps : Array Value} {D : Nat} {W : World} {v : Value} (hK : W.heap[D]? = some (.deferred (some [])))
    (hr : (results fn tmps).run P (W.putObj D (.deferred none)) = .ok v (W.putObj D (.deferred none))) (hR : R (.returned v) (W.putObj D (.deferred none))) : bodyPostM F n P fn R .ret { tmps := tmps, defers := [{ target := .collected D, args := #[] }] } W :=
  ⟨by simp, .inl ⟨_, _, rfl, run_takeDeferred hK, v, hr, hR⟩⟩

set_option maxRecDepth 100000 in
set_option maxHeartbeats 12800000 in
theorem iSlopes (fs : List Fn) (ap : Option Addr) (capp : Nat) (j : Nat) (af : Option Addr) (cf : Nat) (aa : Option Addr) (ca : Nat) (args : List Int) (w : World)
    (hpb : progB fs = true) (hj : j < fs.length) (hfl : fs.length ≤ 1048576) (hP : Pat w 0 w.heap.size fs ap) (hFo : Fat w 0 w.heap.size (fs.getD j noFn).outs af) (hA : At w aa args) (hN : Nums args) (hal : (args.length : Int) = (fs.getD j noFn).params) (hab : args.length ≤ 1048576) (hca : args.length ≤ ca) (hca2 : ca ≤ 9223372036854775807) :
    Calls Tryz.prog 90 #[.agg #[ofN, .slice ap fs.length capp, .string (fs.getD j noFn).name, .int .i64 (fs.getD j noFn).params, .slice af (fs.getD j noFn).outs.len cf, .slice aa args.length ca], .int .i64 0] w (JaRes w (jaA fs j args) (jaC fs j args args.length)) := by
  have hol : (fs.getD j noFn).outs.len ≤ 12 := (fn_parts (progB_fn hpb hj)).2.1.2
  have HCO := fun (W : World) (hW : Below w.heap.size w W) (u g : Nat) (hu : At W (some ⟨g, 0, none⟩) (unitV args.length u)) => Lib.hid (iAlong fs ap capp j af cf aa (some ⟨g, 0, none⟩) ca args.length args.length args (unitV args.length u) W hpb hj hfl ((hP.below hW).mono (Nat.le_refl _) hW.size) ((hFo.agree (fun i _ h2 => hW.block i h2)).mono (Nat.le_refl _) hW.size) (hA.below hW (Nat.le_refl _)) hN hu (unitV_nums _ _) hal rfl (unitV_len _ _) hca hca2)
  have HLA : Hid (∀ u, (alL fs j args (unitV args.length u)).c = 0 → (alL fs j args (unitV args.length u)).l.length = (fs.getD j noFn).outs.len) := fun u hc => lisE_len _ hc
  have HC0 : Hid (jaC fs j args 0 = 0) := rfl
  have HCG : Hid (∀ i, jaC fs j args i = 0 → (alL fs j args (unitV args.length i)).c = 0 → jaC fs j args (i + 1) = 0) := fun i h h2 => jaC_go h h2
  have HCB : Hid (∀ i k, jaC fs j args i = 0 → ¬ (alL fs j args (unitV args.length i)).c = 0 → jaC fs j args (i + 1 + k) = (alL fs j args (unitV args.length i)).c) := fun i k h h2 => jaC_bad h h2 k
  have HUV : Hid (∀ u, (unitV args.length u).length = args.length) := fun u => unitV_len _ _
  have HFU : Hid (∀ u k, slU fs j args u k = ((alL fs j args (unitV args.length u)).l.getD k (0, 0)).2) := fun _ _ => rfl
  have HRS : Hid (jaA fs j args = if jaC fs j args args.length = 0 then jaR (slU fs j args) (fs.getD j noFn).outs.len args.length 0 else []) := rfl
  clear hpb hj hfl hP hFo hA hN
  rw [← hal] at HCO ⊢
  clear hal
  generalize jaA fs j args = JA at *
  generalize jaC fs j args = C at *
  generalize slU fs j args = f at *
  obtain ⟨AL, hAL⟩ : ∃ AL : Nat → Rl IP, AL = fun u => alL fs j args (unitV args.length u) := ⟨_, rfl⟩
  have eAL : ∀ u, alL fs j args (unitV args.length u) = AL u := fun u => by rw [hAL]
  simp only [eAL] at HCO HLA HCG HCB HFU
  clear hAL eAL
  generalize (fs.getD j noFn).name = nm at *
  generalize (fs.getD j noFn).outs.len = mo at *
  generalize args.length = n at *
  have hmk : ∀ w : World, (Instr.makeSlice 47 (.int .i64 (mo : Int)) (.int .i64 (mo : Int))).run Tryz.prog w = .ok (.slice (some ⟨w.heap.size, 0, none⟩) mo mo) (w.alloc (.cells (madeCells #[Value.slice none 0 0] mo) 25)) := by
    obtain ⟨i1, hi, hz0, hz1, hz2⟩ := info_parts infoRow
    intro w
    have := run_make (P := Tryz.prog) w 47 25 i1 (.slice none 0 0) Tryz.underlying47 hi hz0 .i64 .i64 mo mo (by omega) (Int.le_refl _) (by rw [hz2]; omega) (by omega)
    simp only [Int.toNat_natCast] at this
    rw [this]
    simp [Value.cells, hz1]
  obtain ⟨w2, hw2⟩ : ∃ w2, ((((w.alloc (.cells #[ofN, .slice ap fs.length capp, .string nm, .int .i64 n, .slice af mo cf, .slice aa n ca] 65)).alloc (.cells #[.slice none 0 0] 47)).alloc (.cells #[.int .i64 0] 2)).alloc (.cells (madeCells #[Value.slice none 0 0] mo) 25)).alloc (.cells #[.slice (some ⟨w.heap.size + 1 + 1 + 1, 0, none⟩) mo mo] 47) = w2 := ⟨_, rfl⟩
  have bw2 : Below w.heap.size w w2 := by rw [← hw2]; exact (((((Below.refl _ _).alloc (Nat.le_refl _) _).alloc (by simp) _).alloc (by simp; omega) _).alloc (by simp; omega) _).alloc (by simp; omega) _
  have z2 : w2.heap.size = w.heap.size + 5 := by rw [← hw2]; simp
  have p0 : w2.cell? ⟨w.heap.size, 0, none⟩ = some ofN := by rw [← hw2]; simp [go_sem]
  have p1 : w2.cell? ⟨w.heap.size, 1, none⟩ = some (.slice ap fs.length capp) := by rw [← hw2]; simp [go_sem]
  have p2 : w2.cell? ⟨w.heap.size, 2, none⟩ = some (.string nm) := by rw [← hw2]; simp [go_sem]
  have p3 : w2.cell? ⟨w.heap.size, 3, none⟩ = some (.int .i64 n) := by rw [← hw2]; simp [go_sem]
  have p4 : w2.cell? ⟨w.heap.size, 4, none⟩ = some (.slice af mo cf) := by rw [← hw2]; simp [go_sem]
  have p5 : w2.cell? ⟨w.heap.size, 5, none⟩ = some (.slice aa n ca) := by rw [← hw2]; simp [go_sem]
  have pz : w2.frozen? ⟨w.heap.size, 5, none⟩ = false := by rw [← hw2]; simp [go_sem]
  have r4 : w2.cell? ⟨w.heap.size + 1, 0, none⟩ = some (.slice none 0 0) := by rw [← hw2]; simp [go_sem]
  have f4 : w2.frozen? ⟨w.heap.size + 1, 0, none⟩ = false := by rw [← hw2]; simp [go_sem]
  have r5 : w2.cell? ⟨w.heap.size + 1 + 1, 0, none⟩ = some (.int .i64 0) := by rw [← hw2]; simp [go_sem]
  have f5 : w2.frozen? ⟨w.heap.size + 1 + 1, 0, none⟩ = false := by rw [← hw2]; simp [go_sem]
  have bx : w2.cell? ⟨w.heap.size + 1 + 1 + 1 + 1, 0, none⟩ = some (.slice (some ⟨w.heap.size + 1 + 1 + 1, 0, none⟩) mo mo) := by rw [← hw2]; simp [go_sem]
  have HRW : Hid (∀ L, RwI w2 w.heap.size L mo (jaR f mo 0 0)) := by
    refine fun L => ⟨fun _ => none, fun _ => 0, Mq.start (vs := List.replicate mo (Value.slice none 0 0)) ?_ (fun i hi => by rw [List.getElem?_replicate, if_pos hi]) (fun i hi => by rw [jaR_at hi]; rfl), fun i hi p hp => by cases hp⟩
    have hh : w2.heap[w.heap.size + 1 + 1 + 1]? = some (.cells (madeCells #[Value.slice none 0 0] mo) 25 (0, 0)) := by
      rw [← hw2]
      refine (Below.heap_alloc _ _ _ (by simp)).trans ?_
      have e := heap_alloc_new (((w.alloc (.cells #[ofN, .slice ap fs.length capp, .string nm, .int .i64 n, .slice af mo cf, .slice aa n ca] 65)).alloc (.cells #[.slice none 0 0] 47)).alloc (.cells #[.int .i64 0] 2)) (.cells (madeCells #[Value.slice none 0 0] mo) 25)
      simpa using e
    have hm : madeCells #[Value.slice none 0 0] mo = (List.replicate mo (Value.slice none 0 0)).toArray := by
      apply Array.ext
      · simp [madeCells]
      · intro i h1 h2; have : i % 1 = 0 := Nat.mod_one i; simp [madeCells, this]
    rw [hm] at hh
    exact ⟨by simp, .inr ⟨_, mo, _, rfl, by omega, hh, by omega, by unfold maxLen; omega, by simp, by rw [List.take_of_length_le (by simp)]⟩⟩
  have Z2 := Lib.hid z2
  have HBW := Lib.hid bw2
  clear z2 bw2
  refine (callsIn_wide (n := 3)).1 ?_
  refine callsIn_of_wp_marks Tryz.func90 rfl trivial ?_ rfl
  simp only [Tryz.ntmps90, List.size_toArray, List.length_cons, List.length_nil, Nat.reduceAdd, Nat.reduceSub, Array.replicate_succ, Array.replicate_zero, List.push_toArray, List.append_toArray, List.nil_append, List.cons_append]
  gi_wp2
  clear hw2 hmk
  refine ⟨trivial, ?_⟩
  refine (callsIn_wide.2 (iUnits n 0 n w2)).mono ?_; rintro e w3 ⟨rfl, b3, hz3, k3, k1, k2⟩
  have HF3 : Hid (SlF w3 w.heap.size w2.heap.size n ap fs.length capp nm n af mo cf aa n ca) := by
    have z2 := Z2.out
    have kk := Kp.of_below (S := fun _ => False) b3
    exact ⟨by omega, PlAt.next ⟨p0, p1, p2, p3, p4, p5, pz⟩ b3, kk.cell r4 (fun h => h), (kk.fz (cell_lt r4) (fun h => h)).trans f4, kk.cell r5 (fun h => h), (kk.fz (cell_lt r5) (fun h => h)).trans f5, kk.cell bx (fun h => h), k3, k1, k2⟩
  have HR3 := Lib.hid ((HRW.out (w3.heap.size + 2)).next b3)
  have HB3 : Hid (Below w.heap.size w w3) := HBW.out.trans (b3.mono HBW.out.size)
  clear p0 p1 p2 p3 p4 p5 pz r4 f4 r5 f5 bx k3 k1 k2 HRW b3
  gi_wp2
  have Z3 := Lib.hid hz3
  refine Rg.enter (F := Fence.wide) (n := 3) rfl (by omega) (gf := 126) (lb := #[.pointer (some ⟨w2.heap.size + 1, 0, none⟩), .pointer (some ⟨w2.heap.size + 2, 0, none⟩), .pointer (some ⟨w2.heap.size, 0, none⟩)]) rfl trivial (enters_of Tryz.func126 (by kernel_rfl) rfl) ?_
  intro R W1 hfn et ep ea eb eD el bW zW hAt
  have HT := Lib.hid et
  have HP := Lib.hid ep
  have HAC := Lib.hid ea
  have HBD := Lib.hid eb
  have HEL := Lib.hid el
  have HED := Lib.hid eD
  have ZW := Lib.hid zW
  clear et ep ea eb eD zW hz3
  rw [← el]
  have HF1 := Lib.hid (HF3.out.next bW)
  have HR1 := Lib.hid (HR3.out.next bW)
  have HB1 : Hid (Below w.heap.size w W1) := HB3.out.trans (bW.mono HB3.out.size)
  clear el HF3 HR3 HB3 bW
  obtain ⟨J, hJ⟩ : ∃ J : Nat → World → Prop, J = fun k W => Hid (Rg.At R .ready none W) ∧ Hid (SlF W w.heap.size w2.heap.size n ap fs.length capp nm n af mo cf aa n ca) ∧ Hid (RwI W w.heap.size (w3.heap.size + 2) mo (jaR f mo k 0)) ∧ Hid (C k = 0) ∧ Hid (Below w.heap.size w W) := ⟨_, rfl⟩
  obtain ⟨Jx, hJx⟩ : ∃ Jx : World → Prop, Jx = fun W => Hid (Rg.At R .done (some .ret) W) ∧ Hid (W.cell? ⟨w.heap.size + 1, 0, none⟩ = some (.slice none 0 0)) ∧ Hid (W.cell? ⟨w.heap.size + 1 + 1, 0, none⟩ = some (.int .i64 (C n))) ∧ Hid (¬ C n = 0) ∧ Hid (Below w.heap.size w W) := ⟨_, rfl⟩
  have HJ : Hid (∀ k W, J k W = (Hid (Rg.At R .ready none W) ∧ Hid (SlF W w.heap.size w2.heap.size n ap fs.length capp nm n af mo cf aa n ca) ∧ Hid (RwI W w.heap.size (w3.heap.size + 2) mo (jaR f mo k 0)) ∧ Hid (C k = 0) ∧ Hid (Below w.heap.size w W))) := fun k W => by rw [hJ]
  have HJX : Hid (∀ W, Jx W = (Hid (Rg.At R .done (some .ret) W) ∧ Hid (W.cell? ⟨w.heap.size + 1, 0, none⟩ = some (.slice none 0 0)) ∧ Hid (W.cell? ⟨w.heap.size + 1 + 1, 0, none⟩ = some (.int .i64 (C n))) ∧ Hid (¬ C n = 0) ∧ Hid (Below w.heap.size w W))) := fun W => by rw [hJx]
  clear hJ hJx
  refine (unitsIn R.l n hab (w2.heap.size + 1) (w2.heap.size + 2) w2.heap.size J Jx (fun k W h => by rw [HJ.out] at h; exact ⟨h.2.1.out.k1, h.2.1.out.k2, h.2.1.out.k3⟩) ?_ W1 (by rw [HJ.out]; exact ⟨hAt, HF1.out, HR1.out, HC0.out, HB1.out⟩)).mono ?_
  · intro k W0 W g9 hk hJk hb ho
    rw [HJ.out] at hJk
    obtain ⟨HA0, HF0, HR0, HCK, HB0⟩ := hJk
    have hA := HA0.out.below hb
    refine Rg.round hfn hA (by rw [HP.out]; rfl) ?_
    rw [HAC.out, HT.out, HP.out]
    have hlR := HA0.out.lt
    have hg9 := ho.base
    have HF := Lib.hid (HF0.out.next hb)
    have HR := Lib.hid (HR0.out.next hb)
    have HB : Hid (Below w.heap.size w W) := HB0.out.trans (hb.mono HB0.out.size)
    have HO : Hid (At W (some ⟨g9, 0, none⟩) (unitV n k)) := ho.at
    have HA := Lib.hid hA
    have HG9 : Hid (g9 ≠ R.l) := by show _ ≠ _; omega
    clear HA0 HF0 HR0 HB0 ho hb hA hlR hg9
    gi_wp2
    refine ⟨HA.out, ?_⟩
    rw [HBD.out]
    obtain ⟨W2, hW2⟩ : ∃ W2, W.putObj R.l (R.rc .busy none) = W2 := ⟨_, rfl⟩
    rw [hW2]
    have hel := HEL.out
    have hz3 := Z3.out
    have hz2 := Z2.out
    have kk : Kp (fun b => b = R.l) W W2 := by rw [← hW2]; exact kpPut _ _ _
    have HA2 : Hid (Rg.At R .busy none W2) := by show Rg.At _ _ _ _; rw [← hW2]; exact HA.out.put .busy none
    have HF2 := Lib.hid (HF.out.keep kk (fun b h1 h2 e => by omega))
    have HR2 := Lib.hid (HR.out.keep kk (by omega) (fun b h1 h2 e => by omega))
    have HB2 : Hid (Below w.heap.size w W2) := HB.out.trans (kk.below (by have := HB.out.size; omega) (fun b e => by have := HB.out.size; omega) |>.mono (Nat.le_refl _))
    have HO2 : Hid (At W2 (some ⟨g9, 0, none⟩) (unitV n k)) := HO.out.keptS kk (fun b hb e => by have := blk_eqE hb; have := HG9.out; omega)
    clear HA HF HR HB HO HG9 hW2 kk hel hz3 hz2
    obtain ⟨p0, p1, p2, p3, p4, p5, pz⟩ := HF2.out.pl
    have l0 := cell_lt p0
    have HX : Hid (∀ W, Below W2.heap.size W2 W → W.cell? ⟨w.heap.size, 0, none⟩ = some ofN ∧ W.cell? ⟨w.heap.size, 1, none⟩ = some (.slice ap fs.length capp) ∧ W.cell? ⟨w.heap.size, 2, none⟩ = some (.string nm) ∧ W.cell? ⟨w.heap.size, 3, none⟩ = some (.int .i64 n) ∧ W.cell? ⟨w.heap.size, 4, none⟩ = some (.slice af mo cf) ∧ W.cell? ⟨w.heap.size, 5, none⟩ = some (.slice aa n ca)) := by
      intro W hW
      exact ⟨(hW.cell (p := ⟨w.heap.size, 0, none⟩) l0).trans p0, (hW.cell (p := ⟨w.heap.size, 1, none⟩) l0).trans p1, (hW.cell (p := ⟨w.heap.size, 2, none⟩) l0).trans p2, (hW.cell (p := ⟨w.heap.size, 3, none⟩) l0).trans p3, (hW.cell (p := ⟨w.heap.size, 4, none⟩) l0).trans p4, (hW.cell (p := ⟨w.heap.size, 5, none⟩) l0).trans p5⟩
    have HCN := fun (W : World) (hW : Below W2.heap.size W2 W) => Lib.hid (iConstants (some ⟨g9, 0, none⟩) n n (unitV n k) (HUV.out k) hab ap fs.length capp nm n af mo cf aa n ca W (HO2.out.below hW (Nat.le_refl _)))
    have HCK2 := fun (W : World) (hW : Below W2.heap.size W2 W) (g : Nat) (hg : At W (some ⟨g, 0, none⟩) (unitV n k)) => HCO W (HB2.out.trans (hW.mono HB2.out.size)) k g hg
    gi_wp2
    refine region_TR 11 (fun w' => w'.cell? ⟨w.heap.size, 0, none⟩ = some ofN ∧ w'.cell? ⟨w.heap.size, 1, none⟩ = some (.slice ap fs.length capp) ∧ w'.cell? ⟨w.heap.size, 2, none⟩ = some (.string nm) ∧ w'.cell? ⟨w.heap.size, 3, none⟩ = some (.int .i64 n) ∧ w'.cell? ⟨w.heap.size, 4, none⟩ = some (.slice af mo cf) ∧ w'.cell? ⟨w.heap.size, 5, none⟩ = some (.slice aa n ca)) (by kernel_rfl) (by kernel_rfl) (fun ⟨_, _, h⟩ => h) (⟨p0, p1, p2, p3, p4, p5⟩) (fun _ _ d _ _ h => by cases d <;> exact h) (fun HQ hHeld => ?_)
    refine anyT_take (i := 0) (v := ?vT0_1) rfl (by kernel_rfl) (fun c a w h => HQ.out c a _ _ w h) (Or.inl ⟨by rfl, ?hT0_1⟩) hHeld ?rT0_1
    case hT0_1 => (intro wS hSw; (try dsimp only at hSw); go_simp; try with_reducible rfl)
    simp only [Act.put]
    refine anyT_take (i := 1) (v := ?vT1_1) rfl (by kernel_rfl) (fun c a w h => HQ.out c a _ _ w h) (Or.inl ⟨by rfl, ?hT1_1⟩) hHeld ?rT1_1
    case hT1_1 => (intro wS hSw; (try dsimp only at hSw); go_simp; try with_reducible rfl)
    simp only [Act.put]
    refine anyT_take (i := 2) (v := ?vT2_1) rfl (by kernel_rfl) (fun c a w h => HQ.out c a _ _ w h) (Or.inl ⟨by rfl, ?hT2_1⟩) hHeld ?rT2_1
    case hT2_1 => (intro wS hSw; (try dsimp only at hSw); go_simp; try with_reducible rfl)
    simp only [Act.put]
    refine anyT_step (i := 3) rfl (by kernel_rfl) (fun K hK => ?_)
    clear hHeld
    go_simp
    refine (HCN _ (below_drew (Below.refl _ _))).out.mono ?_; rintro e v0 ⟨g0, rfl, o0, c0⟩
    have d0 : Below W2.heap.size W2 v0 := ⟨c0.os, c0.tape, c0.output, c0.size, c0.block⟩
    go_wp2_with fail
    refine hK.out _ _ (HX.out _ d0) (fun hHeld => ?_)
    clear hK K
    try simp only [Act.put]
    refine anyT_step (i := 4) rfl (by kernel_rfl) (fun K hK => ?_)
    clear hHeld
    go_simp
    refine (HCK2 v0 d0 g0 o0.at).out.mono ?_; rintro e v1 ⟨a6, c6, a7, c7, rfl, o6, o7, _, c1⟩
    have d1 : Below W2.heap.size W2 v1 := d0.trans (c1.mono d0.size)
    go_wp2_with fail
    refine hK.out _ _ (HX.out _ d1) (fun hHeld => ?_)
    clear hK K
    try simp only [Act.put]
    refine anyT_take (i := 5) (v := ?vT5_1) rfl (by kernel_rfl) (fun c a w h => HQ.out c a _ _ w h) (Or.inl ⟨by rfl, ?hT5_1⟩) hHeld ?rT5_1
    case hT5_1 => (intro wS hSw; (try dsimp only at hSw); go_simp; try with_reducible rfl)
    simp only [Act.put]
    refine anyT_take (i := 6) (v := ?vT6_1) rfl (by kernel_rfl) (fun c a w h => HQ.out c a _ _ w h) (Or.inl ⟨by rfl, ?hT6_1⟩) hHeld ?rT6_1
    case hT6_1 => (intro wS hSw; (try dsimp only at hSw); go_simp; try with_reducible rfl)
    simp only [Act.put]
    refine anyT_take (i := 7) (v := ?vT7_1) rfl (by kernel_rfl) (fun c a w h => HQ.out c a _ _ w h) (Or.inl ⟨by rfl, ?hT7_1⟩) hHeld ?rT7_1
    case hT7_1 => (intro wS hSw; (try dsimp only at hSw); go_simp; try with_reducible rfl)
    simp only [Act.put]
    refine anyT_take (i := 8) (v := ?vT8_1) rfl (by kernel_rfl) (fun c a w h => HQ.out c a _ _ w h) (Or.inl ⟨by rfl, ?hT8_1⟩) hHeld ?rT8_1
    case hT8_1 => (intro wS hSw; (try dsimp only at hSw); go_simp; try with_reducible rfl)
    simp only [Act.put]
    refine anyT_take (i := 9) (v := ?vT9_1) rfl (by kernel_rfl) (fun c a w h => HQ.out c a _ _ w h) (Or.inl ⟨by rfl, ?hT9_1⟩) hHeld ?rT9_1
    case hT9_1 => (intro wS hSw; (try dsimp only at hSw); go_simp; try with_reducible rfl)
    simp only [Act.put]
    refine anyT_take (i := 10) (v := ?vT10_1) rfl (by kernel_rfl) (fun c a w h => HQ.out c a _ _ w h) (Or.inl ⟨by rfl, ?hT10_1⟩) hHeld ?rT10_1
    case hT10_1 => (intro wS hSw; (try dsimp only at hSw); go_simp; try with_reducible rfl)
    simp only [Act.put]
    refine anyT_last rfl (by kernel_rfl) (by kernel_rfl) (fun K hK => ?_)
    try dsimp only at hHeld
    go_simp
    refine hK.out _ _ ?_
    clear hK K hHeld
    have HF3 := Lib.hid (HF2.out.next d1)
    have HA3 := Lib.hid (HA2.out.below d1)
    have HB3 : Hid (Below w.heap.size w v1) := HB2.out.trans (d1.mono HB2.out.size)
    have hel := HEL.out
    have hz3 := Z3.out
    have hz2 := Z2.out
    have h0s := HB2.out.size
    have hRl : R.l < W2.heap.size := HA2.out.lt
    by_cases hc : (AL k).c = 0
    rotate_left
    · have hbf : ((AL k).c != 0) = true := by simp [hc]
      have hCn : C n = (AL k).c := by
        have := HCB.out k (n - k - 1) HCK.out hc
        rwa [show k + 1 + (n - k - 1) = n by omega] at this
      have HCN2 := Lib.hid hCn
      have r4 := HF3.out.r4
      have f4 := HF3.out.f4
      have r5 := HF3.out.r5
      have f5 := HF3.out.f5
      have kS : Kp (fun b => b = w.heap.size + 1 ∨ b = w.heap.size + 1 + 1) v1 ((v1.setCell ⟨w.heap.size + 1, 0, none⟩ (.slice none 0 0)).setCell ⟨w.heap.size + 1 + 1, 0, none⟩ (.int .i64 (AL k).c)) := (Kp.set (p := ⟨w.heap.size + 1, 0, none⟩) (.inl rfl)).trans (Kp.set (p := ⟨w.heap.size + 1 + 1, 0, none⟩) (.inr rfl))
      have HED2 := HED.out
      have HA5 := Lib.hid (HA3.out.keep kS (by omega) (by omega))
      have q4 : ((v1.setCell ⟨w.heap.size + 1, 0, none⟩ (.slice none 0 0)).setCell ⟨w.heap.size + 1 + 1, 0, none⟩ (.int .i64 (AL k).c)).cell? ⟨w.heap.size + 1, 0, none⟩ = some (.slice none 0 0) := (World.cell?_setCell_other _ _ _ _ (by simp)).trans (World.cell?_setCell_same _ _ _ r4)
      have q5 : ((v1.setCell ⟨w.heap.size + 1, 0, none⟩ (.slice none 0 0)).setCell ⟨w.heap.size + 1 + 1, 0, none⟩ (.int .i64 (AL k).c)).cell? ⟨w.heap.size + 1 + 1, 0, none⟩ = some (.int .i64 (AL k).c) := World.cell?_setCell_same _ _ _ ((World.cell?_setCell_other _ _ _ _ (by simp)).trans r5)
      have HQ4 := Lib.hid q4
      have HQ5 := Lib.hid q5
      have HB5 : Hid (Below w.heap.size w ((v1.setCell ⟨w.heap.size + 1, 0, none⟩ (.slice none 0 0)).setCell ⟨w.heap.size + 1 + 1, 0, none⟩ (.int .i64 (AL k).c))) := (HB3.out.setCell (p := ⟨w.heap.size + 1, 0, none⟩) (by show w.heap.size ≤ w.heap.size + 1; omega) _).setCell (p := ⟨w.heap.size + 1 + 1, 0, none⟩) (by show w.heap.size ≤ w.heap.size + 1 + 1; omega) _
      clear q4 q5 hCn o6 o7 c1 d1 o0 c0 d0 p0 p1 p2 p3 p4 p5 pz kS HF2 HA2 HR2 HO2 HX HCN HCK2
      gi_wp2
      refine ⟨HA5.out, .inr ⟨rfl, ?_⟩⟩
      rw [HJX.out]
      have kp := kpPut ((v1.setCell ⟨w.heap.size + 1, 0, none⟩ (.slice none 0 0)).setCell ⟨w.heap.size + 1 + 1, 0, none⟩ (.int .i64 (AL k).c)) R.l (R.rc .done (some .ret))
      exact ⟨HA5.out.put .done (some .ret), kp.cell HQ4.out (by omega), by rw [HCN2.out]; exact kp.cell HQ5.out (by omega), by rw [HCN2.out]; exact hc, HB5.out.trans (kp.below (by have := HB5.out.size; omega) (fun b e => by omega))⟩
    · have hbf : ((AL k).c != 0) = false := by rw [hc]; rfl
      have hbl : drB (AL k) = (AL k).l.map Prod.snd := if_pos hc
      have hln : (drB (AL k)).length = mo := by rw [hbl, List.length_map]; exact HLA.out k hc
      have HVX : Hid (∀ m, (drB (AL k)).getD m 0 = f k m) := by
        show ∀ m, _
        intro m
        rw [HFU.out, hbl, List.getD_eq_getElem?_getD, List.getD_eq_getElem?_getD, List.getElem?_map]
        cases (AL k).l[m]? <;> rfl
      have HD7 : Hid (At v1 a7 (drB (AL k))) := by
        rcases o7 with e | ⟨g, rfl, o⟩
        · exact .inl e
        · exact o.at
      have HK1 : Hid (C (k + 1) = 0) := HCG.out k HCK.out hc
      have HRJ : Hid (∃ A K, Mq v1 w.heap.size (w.heap.size + 1 + 1 + 1) mo mo (jaR f mo k 0) A K ∧ (∀ i, i < mo → ∀ p : Addr, A i = some p → w3.heap.size + 2 ≤ p.block) ∧ (∀ b, blk a7 (drB (AL k)) = some b → w.heap.size + 1 + 1 + 1 ≠ b ∧ b < v1.heap.size ∧ ∀ i, i < mo → ∀ p : Addr, A i = some p → p.block ≠ b)) := by
        obtain ⟨A, K, h1, h2⟩ := HR2.out
        refine ⟨A, K, h1.next d1, h2, fun b hb => ?_⟩
        have h9 := o7.lt b hb
        have hd0 := d0.size
        exact ⟨by omega, h9.2, fun i hi p hp => by have := (h1.row i hi).blk p hp; omega⟩
      rw [hln]
      have HLN := Lib.hid hln
      clear hbl hln o6 o7 c1 d1 o0 c0 d0 p0 p1 p2 p3 p4 p5 pz HF2 HA2 HR2 HO2 HX HCN HCK2
      generalize drB (AL k) = DB at *
      gi_wp2
      clear hc hbf
      gi_loopw [43] (fun x wr => ∃ m : Nat, m ≤ mo ∧ x = .int .i64 m ∧ Hid (Rg.At R .busy none wr) ∧ Hid (SlF wr w.heap.size w2.heap.size n ap fs.length capp nm n af mo cf aa n ca) ∧ Hid (At wr a7 DB) ∧ Hid (∃ A K, Mq wr w.heap.size (w.heap.size + 1 + 1 + 1) mo mo (jaR f mo k m) A K ∧ (∀ i, i < mo → ∀ p : Addr, A i = some p → w3.heap.size + 2 ≤ p.block) ∧ (∀ b, blk a7 DB = some b → w.heap.size + 1 + 1 + 1 ≠ b ∧ b < wr.heap.size ∧ ∀ i, i < mo → ∀ p : Addr, A i = some p → p.block ≠ b)) ∧ Hid (Below w.heap.size w wr)) (fun x _ => mo - (intOf x).toNat)
      case atStart => exact ⟨0, Nat.zero_le _, rfl, HA3.out, HF3.out, HD7.out, HRJ.out, HB3.out⟩
      case round =>
        obtain ⟨m, hm, rfl, HAm, HFm, HDm, HRm, HBm⟩ := hrel
        clear HA3 HF3 HD7 HRJ HB3
        by_cases hlt : m < mo
        · have hii : (m : Int) < (mo : Int) := by omega
          have hl7 := HLN.out
          obtain ⟨b7, o7, rfl, hb7, hc7⟩ := HDm.out.resolve_left (by intro e; rw [e] at hl7; simp at hl7; omega)
          have hx := hc7 m (by omega)
          rw [HVX.out m] at hx
          obtain ⟨A, K, hM, hlo, hB7⟩ := HRm.out
          have hcell := hM.cell m hlt
          have hfr := hM.frz m
          have hrow := hM.row m hlt
          have bx := HFm.out.bx
          have hkb : k ≤ 1048576 := by omega
          have hrl0 : ((jaR f mo k m).getD m []).length = k := by rw [jaR_at hlt, if_neg (Nat.lt_irrefl _)]; simp
          obtain ⟨rl, hrl⟩ : ∃ rl, (jaR f mo k m).getD m [] = rl := ⟨_, rfl⟩
          obtain ⟨am, ham⟩ : ∃ am, A m = am := ⟨_, rfl⟩
          obtain ⟨km, hkm⟩ : ∃ km, K m = km := ⟨_, rfl⟩
          rw [hrl, ham, hkm] at hcell hrow
          rw [hrl] at hrl0
          have HR0 : Hid (rl.length ≤ 1048576) := by show rl.length ≤ _; omega
          clear hrl0
          have hl0 := HFm.out.le
          have hbx := cell_lt bx
          have hbc := cell_lt hcell
          have hnx : ∀ p : Addr, am = some p → p.block ≠ w.heap.size + 1 + 1 + 1 ∧ w3.heap.size + 2 ≤ p.block ∧ p.block < wr.heap.size := fun p hp => ⟨hM.ne m hlt p (by rw [ham]; exact hp), hlo m hlt p (by rw [ham]; exact hp), (hrow.blk p hp).2⟩
          obtain ⟨x, hfx⟩ : ∃ x, f k m = x := ⟨_, rfl⟩
          rw [hfx] at hx
          obtain ⟨i0, hi0, hz0, hz1, hzz⟩ := info_parts info64
          have HGE := Lib.hid (show w.heap.size ≤ wr.heap.size from by have := HBm.out.size; omega)
          clear hc7 hel hz3 hz2 hl7
          gi_wp2
          refine region_TR 10 (fun w' => w'.cell? ⟨w.heap.size + 1 + 1 + 1 + 1, 0, none⟩ = some (.slice (some ⟨w.heap.size + 1 + 1 + 1, 0, none⟩) mo mo) ∧ w'.cell? ⟨w.heap.size + 1 + 1 + 1, m, none⟩ = some (.slice am rl.length km) ∧ w'.frozen? ⟨w.heap.size + 1 + 1 + 1, m, none⟩ = false) (by kernel_rfl) (by kernel_rfl) (fun ⟨_, _, h⟩ => h) (⟨bx, hcell, hfr⟩) (fun _ _ d _ _ h => by cases d <;> exact h) (fun HQ hHeld => ?_)
          refine anyT_take (i := 0) (v := ?vT0_2) rfl (by kernel_rfl) (fun c a w h => HQ.out c a _ _ w h) (Or.inl ⟨by rfl, ?hT0_2⟩) hHeld ?rT0_2
          case hT0_2 => (intro wS hSw; (try dsimp only at hSw); go_simp; try with_reducible rfl)
          simp only [Act.put]
          refine anyT_take (i := 1) (v := ?vT1_2) rfl (by kernel_rfl) (fun c a w h => HQ.out c a _ _ w h) (Or.inl ⟨by rfl, ?hT1_2⟩) hHeld ?rT1_2
          case hT1_2 => (intro wS hSw; (try dsimp only at hSw); go_simp; try with_reducible rfl)
          simp only [Act.put]
          refine anyT_take (i := 2) (v := ?vT2_2) rfl (by kernel_rfl) (fun c a w h => HQ.out c a _ _ w h) (Or.inl ⟨by rfl, ?hT2_2⟩) hHeld ?rT2_2
          case hT2_2 => (intro wS hSw; (try dsimp only at hSw); go_simp; try with_reducible rfl)
          simp only [Act.put]
          refine anyT_take (i := 3) (v := ?vT3_2) rfl (by kernel_rfl) (fun c a w h => HQ.out c a _ _ w h) (Or.inl ⟨by rfl, ?hT3_2⟩) hHeld ?rT3_2
          case hT3_2 => (intro wS hSw; (try dsimp only at hSw); go_simp; try with_reducible rfl)
          simp only [Act.put]
          refine anyT_take (i := 4) (v := ?vT4_2) rfl (by kernel_rfl) (fun c a w h => HQ.out c a _ _ w h) (Or.inl ⟨by rfl, ?hT4_2⟩) hHeld ?rT4_2
          case hT4_2 => (intro wS hSw; (try dsimp only at hSw); go_simp; try with_reducible rfl)
          simp only [Act.put]
          refine anyT_take (i := 5) (v := ?vT5_2) rfl (by kernel_rfl) (fun c a w h => HQ.out c a _ _ w h) (Or.inl ⟨by rfl, ?hT5_2⟩) hHeld ?rT5_2
          case hT5_2 => (intro wS hSw; (try dsimp only at hSw); go_simp; try with_reducible rfl)
          simp only [Act.put]
          refine anyT_take (i := 6) (v := ?vT6_2) rfl (by kernel_rfl) (fun c a w h => HQ.out c a _ _ w h) (Or.inl ⟨by rfl, ?hT6_2⟩) hHeld ?rT6_2
          case hT6_2 => (intro wS hSw; (try dsimp only at hSw); go_simp; try with_reducible rfl)
          simp only [Act.put]
          refine anyT_step (i := 7) rfl (by kernel_rfl) (fun K7 hK => ?_)
          clear hHeld
          go_simp
          have bA : Below wr.heap.size wr (wr.alloc (.cells #[.int .i64 x] 2)).drew := below_drew ((Below.refl _ _).alloc (Nat.le_refl _) _)
          refine hK.out _ _ ⟨(bA.cell (p := ⟨w.heap.size + 1 + 1 + 1 + 1, 0, none⟩) hbx).trans bx, (bA.cell (p := ⟨w.heap.size + 1 + 1 + 1, m, none⟩) hbc).trans hcell, (bA.frozen (p := ⟨w.heap.size + 1 + 1 + 1, m, none⟩) hbc).trans hfr⟩ (fun hHeld => ?_)
          clear hK K7
          try simp only [Act.put]
          refine anyT_step (i := 8) rfl (by kernel_rfl) (fun K8 hK => ?_)
          clear hHeld
          refine step_append_lies _ (by rfl) _ _ _ (by rfl) w.heap.size 2 i0 _ 1 8 Tryz.underlying25 hi0 hz0 hz1 hzz rfl (by omega) (.slice am rl.length km) rl.length (rl.map (Value.int .i64)) (by rfl) (hrow.keep (Kp.of_below (S := fun _ => False) bA) (fun _ _ h => h)) ⟨wr.heap.size, 0, none⟩ 1 1 [.int .i64 x] (by rfl) (by rfl) (World.news_of_block (cs := #[.int .i64 x]) (t := 2) (fr := (0, 0)) (heap_alloc_new wr _)) (by simp [Value.oneCell']) (by omega) (by have := HR0.out; unfold maxLen; omega) (by have := HR0.out; omega) (by have := HGE.out; simp; omega) (wr.heap.size + 1) (by simp) ?_
          intro gg cc w4 hown4 hgrow hat hlt4
          have kp4 : Kp (fun b => ∃ p : Addr, am = some p ∧ p.block = b) wr w4 := by
            refine (Kp.of_below bA).trans (Kp.grown hgrow (fun g e => ?_))
            cases am with
            | none => cases e
            | some p => exact ⟨p, rfl, by simpa [Value.ownBlock] using e⟩
          have q1 := kp4.cell bx (fun ⟨p, hp, e⟩ => by have h0 := hnx p hp; have h3 := Z3.out; have h2 := Z2.out; omega)
          have q2 := kp4.cell hcell (fun ⟨p, hp, e⟩ => by have h0 := hnx p hp; have h3 := Z3.out; have h2 := Z2.out; omega)
          have q3 := (kp4.fz (o := m) hbc (fun ⟨p, hp, e⟩ => by have h0 := hnx p hp; have h3 := Z3.out; have h2 := Z2.out; omega)).trans hfr
          refine hK.out _ _ ⟨q1, q2, q3⟩ (fun hHeld => ?_)
          clear hK K8
          try simp only [Act.put]
          refine anyT_take (i := 9) (v := ?vT9_2) rfl (by kernel_rfl) (fun c a w h => HQ.out c a _ _ w h) (Or.inl ⟨by rfl, ?hT9_2⟩) hHeld ?rT9_2
          case hT9_2 => (intro wS hSw; (try dsimp only at hSw); go_simp; try with_reducible rfl)
          simp only [Act.put]
          refine anyT_last rfl (by kernel_rfl) (by kernel_rfl) (fun K9 hK => ?_)
          try dsimp only at hHeld
          go_simp
          refine hK.out _ _ ?_
          clear hK K9 hHeld
          have hgc : (∃ p : Addr, am = some p ∧ p.block = gg) ∨ gg = wr.heap.size + 1 := by
            rcases hat with e | e
            · cases am with
              | none => cases e
              | some p => exact .inl ⟨p, rfl, by simpa [Value.ownBlock] using e⟩
            · exact .inr e
          have hOw : Own w.heap.size w4 gg cc (rl ++ [x]) := by
            show World.ownsRow _ _ _ _ _ _ _
            have hl1 : (rl ++ [x]).length = rl.length + 1 := by simp
            rw [hl1, List.map_append]
            exact hown4
          have hR := HAm.out.lt
          have hEL := HEL.out
          have hED := HED.out
          have h3 := Z3.out
          have h2 := Z2.out
          have hg1 : gg ≠ w.heap.size + 1 + 1 + 1 ∧ w3.heap.size + 2 ≤ gg := by
            rcases hgc with ⟨p, hp, e⟩ | e
            · have := hnx p hp; omega
            · omega
          have kp5 : Kp (fun b => (∃ p : Addr, am = some p ∧ p.block = b) ∨ b = w.heap.size + 1 + 1 + 1) wr (w4.setCell ⟨w.heap.size + 1 + 1 + 1, m, none⟩ (.slice (some ⟨gg, 0, none⟩) (rl.length + 1) cc)) := (kp4.mono (fun _ h => .inl h)).trans (Kp.set (.inr rfl))
          have hM5 := hM.put (ls' := jaR f mo k (m + 1)) hlt (by rw [ham]; exact kp4) hOw hg1.1 (fun i hi hne p hp e => by
            rcases hgc with ⟨p0, hp0, e0⟩ | e0
            · exact hne (hM.inj i m hi hlt p p0 hp (by rw [ham]; exact hp0) (by rw [e, e0]))
            · have := ((hM.row i hi).blk p hp).2; omega) (fun q hq => by rw [jaR_step hlt q hq, hrl, hfx])
          rw [show (rl ++ [x]).length = rl.length + 1 by simp] at hM5
          have E1 := Lib.hid (HAm.out.keep kp5 (fun h => h.elim (fun ⟨p, hp, e⟩ => by have := hnx p hp; omega) (fun e => by omega)) (fun h => h.elim (fun ⟨p, hp, e⟩ => by have := hnx p hp; omega) (fun e => by omega)))
          have E2 := Lib.hid (HFm.out.keep kp5 (fun b h1 h2' h => h.elim (fun ⟨p, hp, e⟩ => by have := hnx p hp; omega) (fun e => by omega)))
          have E3 : Hid (At (w4.setCell ⟨w.heap.size + 1 + 1 + 1, m, none⟩ (.slice (some ⟨gg, 0, none⟩) (rl.length + 1) cc)) (some ⟨b7, o7, none⟩) DB) := HDm.out.keptS kp5 (fun b hb h => by
            have h9 := hB7 b hb
            rcases h with ⟨p, hp, e⟩ | e
            · exact h9.2.2 m hlt p (by rw [ham]; exact hp) e
            · exact h9.1 e.symm)
          have E4 : Hid (∃ A K, Mq (w4.setCell ⟨w.heap.size + 1 + 1 + 1, m, none⟩ (.slice (some ⟨gg, 0, none⟩) (rl.length + 1) cc)) w.heap.size (w.heap.size + 1 + 1 + 1) mo mo (jaR f mo k (m + 1)) A K ∧ (∀ i, i < mo → ∀ p : Addr, A i = some p → w3.heap.size + 2 ≤ p.block) ∧ (∀ b, blk (some ⟨b7, o7, none⟩) DB = some b → w.heap.size + 1 + 1 + 1 ≠ b ∧ b < (w4.setCell ⟨w.heap.size + 1 + 1 + 1, m, none⟩ (.slice (some ⟨gg, 0, none⟩) (rl.length + 1) cc)).heap.size ∧ ∀ i, i < mo → ∀ p : Addr, A i = some p → p.block ≠ b)) := by
            refine ⟨_, _, hM5, fun i hi p hp => ?_, fun b hb => ?_⟩
            · by_cases e : i = m
              · simp only [e, if_true] at hp; cases hp; exact hg1.2
              · simp only [e, if_false] at hp; exact hlo i hi p hp
            · have h9 := hB7 b hb
              refine ⟨h9.1, Nat.lt_of_lt_of_le h9.2.1 kp5.size, fun i hi p hp => ?_⟩
              by_cases e : i = m
              · simp only [e, if_true] at hp
                cases hp
                rcases hgc with ⟨p0, hp0, e0⟩ | e0
                · show gg ≠ b; rw [← e0]; exact h9.2.2 m hlt p0 (by rw [ham]; exact hp0)
                · show gg ≠ b; omega
              · simp only [e, if_false] at hp; exact h9.2.2 i hi p hp
          have E5 : Hid (Below w.heap.size w (w4.setCell ⟨w.heap.size + 1 + 1 + 1, m, none⟩ (.slice (some ⟨gg, 0, none⟩) (rl.length + 1) cc))) := HBm.out.trans (kp5.below HGE.out (fun b h => h.elim (fun ⟨p, hp, e⟩ => by have := hnx p hp; omega) (fun e => by omega)))
          clear hM hlo hB7 hcell hfr hrow bx hx hnx hgc hOw hM5 kp4 kp5 hown4 hgrow hat q1 q2 q3 bA
          gi_wp2
          go_roundw
          case rel => exact ⟨m + 1, by omega, by go_num, E1, E2, E3, E4, E5⟩
          case measure => simp [intOf]; omega
        · have hii : ¬ (m : Int) < (mo : Int) := by omega
          obtain rfl : m = mo := by omega
          gi_wp2
          refine ⟨HAm.out, .inl ⟨rfl, ?_⟩⟩
          rw [HJ.out]
          have kp := kpPut wr R.l (R.rc .ready none)
          refine ⟨HAm.out.put .ready none, HFm.out.keep kp (fun b h1 h2 e => by omega), ?_, HK1.out, HBm.out.trans (kp.below (by have := HBm.out.size; omega) (fun b e => by omega))⟩
          obtain ⟨A, K, hM, hlo, _⟩ := HRm.out
          have hM2 := hM.keep kp (by omega) (fun i hi p hp e => by have := hlo i hi p hp; omega)
          rw [jaR_full] at hM2
          exact ⟨A, K, hM2, hlo⟩
  · rintro e W2 ⟨hv, (hJn | hJx)⟩
    · rw [HJ.out] at hJn
      obtain ⟨HA, HF, HR, HCn, HB⟩ := hJn
      refine ⟨hv, .inl ⟨HA.out, ?_⟩⟩
      obtain ⟨W3, hW3⟩ : ∃ W3, W2.putObj R.l (R.rc .exhausted none) = W3 := ⟨_, rfl⟩
      rw [hW3]
      have kp : Kp (fun b => b = R.l) W2 W3 := by rw [← hW3]; exact kpPut _ _ _
      have hK : Hid (W3.heap[w3.heap.size]? = some (.deferred (some []))) := by
        show _ = _; rw [← HED.out]; exact (kp.block _ HA.out.ltD HA.out.ne).trans HA.out.df
      have hel := HEL.out
      have hed := HED.out
      have hz3 := Z3.out
      have hz2 := Z2.out
      have HF4 := Lib.hid (HF.out.keep kp (fun b h1 h2 e => by omega))
      have HR4 := Lib.hid (HR.out.keep kp (by omega) (fun b h1 h2 e => by omega))
      have HB4 : Hid (Below w.heap.size w W3) := HB.out.trans (kp.below (by have := HB.out.size; omega) (fun b e => by omega))
      clear HA HF HR HB hW3 kp hel hed hz3 hz2
      have r4 := HF4.out.r4
      have f4 := HF4.out.f4
      have r5 := HF4.out.r5
      have f5 := HF4.out.f5
      have bx := HF4.out.bx
      obtain ⟨W4, hW4⟩ : ∃ W4, (W3.setCell ⟨w.heap.size + 1, 0, none⟩ (.slice (some ⟨w.heap.size + 1 + 1 + 1, 0, none⟩) mo mo)).setCell ⟨w.heap.size + 1 + 1, 0, none⟩ (.int .i64 0) = W4 := ⟨_, rfl⟩
      have kS : Kp (fun b => b = w.heap.size + 1 ∨ b = w.heap.size + 1 + 1) W3 W4 := by rw [← hW4]; exact (Kp.set (p := ⟨w.heap.size + 1, 0, none⟩) (.inl rfl)).trans (Kp.set (p := ⟨w.heap.size + 1 + 1, 0, none⟩) (.inr rfl))
      have g4 : W4.cell? ⟨w.heap.size + 1, 0, none⟩ = some (.slice (some ⟨w.heap.size + 1 + 1 + 1, 0, none⟩) mo mo) := by rw [← hW4]; exact (World.cell?_setCell_other _ _ _ _ (by simp)).trans (World.cell?_setCell_same _ _ _ r4)
      have g5 : W4.cell? ⟨w.heap.size + 1 + 1, 0, none⟩ = some (.int .i64 0) := by rw [← hW4]; exact World.cell?_setCell_same _ _ _ ((World.cell?_setCell_other _ _ _ _ (by simp)).trans r5)
      have G4 := Lib.hid g4
      have G5 := Lib.hid g5
      have KS := Lib.hid kS
      have EQ4 := Lib.hid hW4
      clear g4 g5 kS hW4
      gi_wp2
      rw [EQ4.out]
      have hz3 := Z3.out
      have hz2 := Z2.out
      have hlw := cell_lt r4
      obtain ⟨W5, hW5⟩ : ∃ W5, W4.putObj w3.heap.size (.deferred none) = W5 := ⟨_, rfl⟩
      have kp5 : Kp (fun b => b = w3.heap.size) W4 W5 := by rw [← hW5]; exact kpPut _ _ _
      have q4 := kp5.cell G4.out (by omega)
      have q5 := kp5.cell G5.out (by omega)
      refine leave_marked (D := w3.heap.size) (v := .tuple #[.slice (some ⟨w.heap.size + 1 + 1 + 1, 0, none⟩) mo mo, .int .i64 0]) ((KS.out.block _ (Array.getElem?_eq_some_iff.1 hK.out).1 (by omega)).trans hK.out) (by rw [hW5]; simp [results, Tryz.results90, go_sem, q4, q5]) ?_
      rw [hW5]
      have hJA : JA = jaR f mo n 0 := by rw [HRS.out, if_pos HCn.out]
      have hl5 : JA.length = mo := by rw [hJA]; exact jaR_len _ _ _ _
      refine ⟨_, mo, by rw [HCn.out, hl5], ?_, (HB4.out.trans (KS.out.below (by have := HB4.out.size; omega) (fun b e => by omega))).trans (kp5.below (by have := HB4.out.size; have := KS.out.size; omega) (fun b e => by omega))⟩
      obtain ⟨A, K, hM, hlo⟩ := HR4.out
      have hM4 := hM.keep KS.out (fun e => by omega) (fun i hi p hp e => by have := hlo i hi p hp; omega)
      have hM5 := hM4.keep kp5 (by omega) (fun i hi p hp e => by have := hlo i hi p hp; omega)
      exact .inr ⟨_, A, K, rfl, by rw [hl5, hJA]; exact hM5⟩
    · rw [HJX.out] at hJx
      obtain ⟨HA, HQ4, HQ5, HCn, HB⟩ := hJx
      refine ⟨hv, .inr ⟨.ret, HA.out, ?_⟩⟩
      obtain ⟨W3, hW3⟩ : ∃ W3, W2.putObj R.l (R.rc .exhausted (some .ret)) = W3 := ⟨_, rfl⟩
      rw [hW3]
      have kp : Kp (fun b => b = R.l) W2 W3 := by rw [← hW3]; exact kpPut _ _ _
      have hK : Hid (W3.heap[w3.heap.size]? = some (.deferred (some []))) := by
        show _ = _; rw [← HED.out]; exact (kp.block _ HA.out.ltD HA.out.ne).trans HA.out.df
      have hel := HEL.out
      have hz3 := Z3.out
      have hz2 := Z2.out
      have q4 := kp.cell HQ4.out (by omega)
      have q5 := kp.cell HQ5.out (by omega)
      have HB4 : Hid (Below w.heap.size w W3) := HB.out.trans (kp.below (by have := HB.out.size; omega) (fun b e => by omega))
      clear HA HQ4 HQ5 HB hW3 kp hel hz3 hz2
      gi_wp2
      obtain ⟨W5, hW5⟩ : ∃ W5, W3.putObj w3.heap.size (.deferred none) = W5 := ⟨_, rfl⟩
      have kp5 : Kp (fun b => b = w3.heap.size) W3 W5 := by rw [← hW5]; exact kpPut _ _ _
      have hz3 := Z3.out
      have hz2 := Z2.out
      have g4 := kp5.cell q4 (by omega)
      have g5 := kp5.cell q5 (by omega)
      refine leave_marked (D := w3.heap.size) (v := .tuple #[.slice none 0 0, .int .i64 (C n)]) hK.out (by rw [hW5]; simp [results, Tryz.results90, go_sem, g4, g5]) ?_
      rw [hW5]
      have hJA : JA = [] := by rw [HRS.out, if_neg HCn.out]
      exact ⟨none, 0, by rw [hJA]; rfl, .inl hJA, HB4.out.trans (kp5.below (by have := HB4.out.size; omega) (fun b e => by omega))⟩

end Go.Proofs.YtoedccgiahegnaaGreat
