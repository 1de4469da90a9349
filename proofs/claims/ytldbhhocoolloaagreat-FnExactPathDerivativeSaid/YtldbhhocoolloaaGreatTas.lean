/- Tapes: sizes, copies, comparisons and marks, as the laws make them. -/
import Derived.Test.YtldbhhocoolloaaGreatTav
import Derived.StillTailTactics
import Derived.Deep.RegionHeld3
namespace Go.Proofs.YtldbhhocoolloaaGreat
open Go.RowKit
set_option linter.unusedVariables false

theorem tbcell {W w1 : World} (hb : Below W.heap.size W w1) : (∀ b o, b < W.heap.size → w1.cell? ⟨b, o, none⟩ = W.cell? ⟨b, o, none⟩) ∧ (∀ b o, b < W.heap.size → w1.frozen? ⟨b, o, none⟩ = W.frozen? ⟨b, o, none⟩) :=
  ⟨fun b o h => hb.cell (p := ⟨b, o, none⟩) h, fun b o h => hb.frozen (p := ⟨b, o, none⟩) h⟩

/-- A block of n cells that may be written, from L on and ahead of B. -/
def Wr (w : World) (L B n g : Nat) : Prop := (L ≤ g ∧ g < B) ∧ (∀ o, w.frozen? ⟨g, o, none⟩ = false) ∧ ∀ o, o < n → ∃ v, w.cell? ⟨g, o, none⟩ = some v
theorem Wr.below {w w' : World} {L B n g : Nat} (h : Wr w L B n g) (hb : Below B w w') : Wr w' L B n g := by
  obtain ⟨h1, h2, h3⟩ := h
  refine ⟨h1, fun o => (hb.frozen (p := ⟨g, o, none⟩) h1.2).trans (h2 o), fun o ho => ?_⟩
  obtain ⟨v, hv⟩ := h3 o ho
  exact ⟨v, (hb.cell (p := ⟨g, o, none⟩) h1.2).trans hv⟩
theorem Wr.mono {w : World} {L L' B B' n g : Nat} (h : Wr w L B n g) (hL : L' ≤ L) (hB : B ≤ B') : Wr w L' B' n g := ⟨by have := h.1; omega, h.2⟩
theorem Own.wr {L : Nat} {w : World} {g cap : Nat} {l : List Int} (h : Own L w g cap l) : Wr w L w.heap.size l.length g := ⟨h.base, h.frz, fun o ho => ⟨_, h.cellAt o ho⟩⟩
theorem Own.oat {L : Nat} {w : World} {g cap : Nat} {l : List Int} (h : Own L w g cap l) : Oat w L w.heap.size l (some ⟨g, 0, none⟩) := .inr ⟨g, 0, rfl, h.base, fun k hk => by rw [Nat.zero_add]; exact h.cellAt k hk⟩

/-- Only blocks from L on and ahead of B have turned, and new ones; what may be written may be written still. -/
structure Trn (L B : Nat) (w w' : World) : Prop where
  os : w'.os = w.os
  tape : w'.tape = w.tape
  output : w'.output = w.output
  size : w.heap.size ≤ w'.heap.size
  block : ∀ k, k < w.heap.size → ¬ (L ≤ k ∧ k < B) → w'.heap[k]? = w.heap[k]?
  wr : ∀ {L' B' n g : Nat}, Wr w L' B' n g → Wr w' L' B' n g
theorem Trn.refl (L B : Nat) (w : World) : Trn L B w w := ⟨rfl, rfl, rfl, Nat.le_refl _, fun _ _ _ => rfl, fun h => h⟩
theorem Trn.trans {L B : Nat} {a b c : World} (h : Trn L B a b) (k : Trn L B b c) : Trn L B a c :=
  ⟨k.os.trans h.os, k.tape.trans h.tape, k.output.trans h.output, Nat.le_trans h.size k.size, fun i hi hn => (k.block i (Nat.lt_of_lt_of_le hi h.size) hn).trans (h.block i hi hn), fun x => k.wr (h.wr x)⟩
theorem Trn.set {L B g o : Nat} {w : World} {v : Value} (h : L ≤ g ∧ g < B) : Trn L B w (w.setCell ⟨g, o, none⟩ v) := by
  refine ⟨rfl, rfl, rfl, by simp, fun i _ hn => Below.heap_setCell _ _ _ _ (by intro e; exact hn (e ▸ h)), fun {L' B' n g'} hw => ?_⟩
  obtain ⟨h1, h2, h3⟩ := hw
  refine ⟨h1, fun q => by simp [h2 q], fun q hq => ?_⟩
  obtain ⟨y, hy⟩ := h3 q hq
  by_cases he : (⟨g', q, none⟩ : Addr) = ⟨g, o, none⟩
  · rw [he] at hy ⊢; exact ⟨v, World.cell?_setCell_same _ _ _ hy⟩
  · exact ⟨y, (World.cell?_setCell_other _ _ _ _ (fun e => he e.symm)).trans hy⟩
theorem Trn.below {L B : Nat} {w w' : World} (h : Trn L B w w') (hL : L ≤ w.heap.size) : Below L w w' := ⟨h.os, h.tape, h.output, h.size, fun k hk => h.block k (by omega) (by omega)⟩
theorem OwnA.trn {L B B' : Nat} {w w' : World} {a : Option Addr} {cap : Nat} {l : List Int} (h : OwnA B' w a cap l) (ho : Trn L B w w') (hB : B ≤ B') : OwnA B' w' a cap l := by
  by_cases hl : l = []
  · exact .inl hl
  · obtain ⟨g, rfl, hg⟩ := h.resolve_left hl
    have hb := hg.base
    have hblk := ho.block g hb.2 (by omega)
    obtain ⟨h1, h2⟩ := hg
    refine .inr ⟨g, rfl, h1, ?_⟩
    rcases h2 with ⟨e, _⟩ | ⟨g', cap', cur, hv, hg', hh, h3⟩
    · cases e
    · cases hv
      exact .inr ⟨g, cap, cur, rfl, hg', hblk.trans hh, h3⟩

set_option maxHeartbeats 800000 in
theorem szOuts_t (a : Option Addr) (n cap : Nat) (left : Int) (w : World) (h1 : (n : Int) ≤ left) (h2 : left ≤ 1048576) :
    Calls Tryz.prog 48 #[.slice a n cap, .int .i64 left] w fun e w' => e = .returned (.int .i64 (left - n)) ∧ w = w' := by
  have hd : decide (left - (n : Int) < 0) = false := decide_eq_false (by omega)
  go_enter Tryz.func48, Tryz.ntmps48
  go_wp2_with fail
  go_ret
  exact ⟨rfl, rfl⟩
set_option maxHeartbeats 800000 in
theorem szOuts_f (a : Option Addr) (n cap : Nat) (left : Int) (w : World) (h1 : left < (n : Int)) (h0 : 0 ≤ left) (h2 : (n : Int) ≤ 9223372036854775807) :
    Calls Tryz.prog 48 #[.slice a n cap, .int .i64 left] w fun e w' => e = .returned (.int .i64 (-1)) ∧ w = w' := by
  have hd : decide (left - (n : Int) < 0) = true := decide_eq_true (by omega)
  go_enter Tryz.func48, Tryz.ntmps48
  go_wp2_with fail
  go_ret
  exact ⟨rfl, rfl⟩

end Go.Proofs.YtldbhhocoolloaaGreat
