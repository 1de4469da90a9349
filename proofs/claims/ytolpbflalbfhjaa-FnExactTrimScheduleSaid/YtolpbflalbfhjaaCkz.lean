/- What a law on TrimSchedule wants besides: marks written into an answer that is a list of actions. -/
import Derived.Test.YtolpbflalbfhjaaCkj
import Derived.Test.YtolpbflalbfhjaaCkq
namespace Go.Proofs.Ytolpbflalbfhjaa
open Go.RowKit
set_option linter.unusedVariables false

/-- the block that a list lies in -/
def blkA (a : Option Addr) (l : List Ac) : Option Nat := if l = [] then none else a.map (·.block)
theorem TRow.cases {w : World} {L k : Nat} {a : Option Addr} {l : List Ac} (h : TRow w L (.slice a l.length k) l) : l = [] ∨ ∃ g n0, a = some ⟨g, 0, none⟩ ∧ AcAt w L w.heap.size l (some ⟨g, 0, none⟩) ∧ Wr w L w.heap.size (n0 * 2) g ∧ l.length ≤ n0 ∧ n0 ≤ k := by
  rcases h with ⟨h, _⟩ | ⟨g, cap, n0, e, h2, h3, h4, h5⟩
  · exact .inl h
  · simp only [Value.slice.injEq, true_and] at e
    obtain ⟨rfl, rfl⟩ := e
    exact .inr ⟨g, n0, rfl, h2, h3, h4, h5⟩
theorem TRow.at {w : World} {L k : Nat} {a : Option Addr} {l : List Ac} (h : TRow w L (.slice a l.length k) l) : AcAt w 0 w.heap.size l a := by
  rcases h.cases with h | ⟨g, n0, rfl, h2, _⟩
  · exact .inl h
  · exact h2.mono (Nat.zero_le _) (Nat.le_refl _)
theorem TRow.lt {w : World} {L k : Nat} {a : Option Addr} {l : List Ac} (h : TRow w L (.slice a l.length k) l) : ∀ g, blkA a l = some g → L ≤ g ∧ g < w.heap.size := by
  intro g hg
  rcases h.cases with h | ⟨g', n0, rfl, _, h3, _⟩
  · simp [blkA, h] at hg
  · unfold blkA at hg
    split at hg
    · cases hg
    · simp at hg; subst hg; exact h3.1
theorem TRow.keptBy {w w' : World} {L k : Nat} {a : Option Addr} {l : List Ac} {row : Option Nat} (h : TRow w L (.slice a l.length k) l) (hg : w.grownBy w' row) (hne : ∀ g, blkA a l = some g → row ≠ some g) : TRow w' L (.slice a l.length k) l := by
  by_cases hl : l = []
  · exact .inl ⟨hl, a, k, by rw [hl]; rfl⟩
  · obtain ⟨g, n0, rfl, h2, h3, h4, h5⟩ := h.cases.resolve_left hl
    have hn := hne g (by simp [blkA, hl])
    have hblk := hg.block g h3.1.2 (fun e => hn e.symm)
    have hz := hg.size
    refine .inr ⟨g, k, n0, rfl, ?_, ⟨⟨h3.1.1, by have := h3.1.2; omega⟩, fun o => (World.frozen?_of_block (a := ⟨g, o, none⟩) hblk).trans (h3.2.1 o), fun o ho => ?_⟩, h4, h5⟩
    · rcases h2 with h2 | ⟨b', off', e, hb, hc⟩
      · exact .inl h2
      · simp only [Option.some.injEq, Addr.mk.injEq, and_true] at e
        obtain ⟨e1, e2⟩ := e; subst e1; subst e2
        refine .inr ⟨g, 0, rfl, ⟨hb.1, by omega⟩, fun i hi => ?_⟩
        obtain ⟨r, c0, c1⟩ := hc i hi
        exact ⟨r, (World.cell?_of_block (a := ⟨g, 0 + i * 2, none⟩) hblk).trans c0, (World.cell?_of_block (a := ⟨g, 0 + i * 2 + 1, none⟩) hblk).trans c1⟩
    · obtain ⟨v, hv⟩ := h3.2.2 o ho
      exact ⟨v, (World.cell?_of_block (a := ⟨g, o, none⟩) hblk).trans hv⟩
/-- marks lie in an answer -/
def MkO (w : World) (L : Nat) (a : Option Addr) (n k0 : Nat) : Prop := n = 0 ∨ ∃ g, a = some ⟨g, 0, none⟩ ∧ g < w.heap.size ∧ MkAc w g n k0
theorem MkO.below {w w' : World} {L n k0 : Nat} {a : Option Addr} (h : MkO w L a n k0) (hb : Below w.heap.size w w') : MkO w' L a n k0 := by
  rcases h with h | ⟨g, h1, h2, h3⟩
  · exact .inl h
  · exact .inr ⟨g, h1, by have := hb.size; omega, h3.agree (hb.block g h2)⟩
set_option maxRecDepth 100000 in
theorem mark0 (a : Option Addr) (cap : Nat) (q : Int) (w : World) : Calls Try.prog 34 #[.slice a 0 cap, .int .i64 q] w fun e w' => e = .returned (.int .i64 q) ∧ w = w' := by
  go_enter Try.func34, Try.ntmps34
  go_wp2_with fail
  go_loopw [1, 5] (fun s i wr => i = .int .i64 0 ∧ s = .int .i64 q ∧ w = wr) (fun _ i _ => 0 - (intOf i).toNat)
  case atStart => exact ⟨rfl, rfl, rfl⟩
  case round =>
    obtain ⟨rfl, rfl, rfl⟩ := hrel
    go_wp2_with fail
    go_ret
    exact ⟨rfl, rfl⟩
set_option maxRecDepth 100000 in
theorem held0 (a : Option Addr) (cap : Nat) (q : Int) (w : World) : Calls Try.prog 42 #[.slice a 0 cap, .int .i64 q] w fun e w' => e = .returned (.int .i64 q) ∧ w = w' := by
  go_enter Try.func42, Try.ntmps42
  go_wp2_with fail
  go_loopw [1, 5] (fun s i wr => i = .int .i64 0 ∧ s = .int .i64 q ∧ w = wr) (fun _ i _ => 0 - (intOf i).toNat)
  case atStart => exact ⟨rfl, rfl, rfl⟩
  case round =>
    obtain ⟨rfl, rfl, rfl⟩ := hrel
    go_wp2_with fail
    go_ret
    exact ⟨rfl, rfl⟩
theorem markOAt (L : Nat) (a : Option Addr) (cap : Nat) (l : List Ac) (k0 : Nat) (q : Int) (w : World) (hq : (k0 : Int) = q) (h : TRow w L (.slice a l.length cap) l) (hl : l.length ≤ 1048576) (hk0 : k0 ≤ 16777216) :
    Calls Try.prog 34 #[.slice a l.length cap, .int .i64 q] w fun e w' => e = .returned (.int .i64 (q + 2 * (l.length : Int))) ∧ MkO w' L a l.length k0 ∧ w.grownBy w' (blkA a l) := by
  by_cases h0 : l = []
  · subst h0
    refine (mark0 a cap q w).mono ?_
    rintro e w' ⟨rfl, rfl⟩
    exact ⟨by simp, .inl rfl, World.grownBy.refl _ _⟩
  · obtain ⟨g, n0, rfl, h2, h3, h4, h5⟩ := h.cases.resolve_left h0
    refine (markActionAt L w.heap.size l.length g cap k0 q w hq ⟨h3.1, h3.2.1, fun o ho => h3.2.2 o (by omega)⟩ hl hk0).mono ?_
    rintro e w' ⟨rfl, _, hg, hm⟩
    have hz := hg.size
    exact ⟨rfl, .inr ⟨g, rfl, by have := h3.1.2; omega, hm⟩, by simpa [blkA, h0] using hg⟩
theorem heldOAt (L : Nat) (a : Option Addr) (cap n : Nat) (k0 : Nat) (q : Int) (w : World) (hq : (k0 : Int) = q) (h : MkO w L a n k0) (hl : n ≤ 1048576) (hk0 : k0 ≤ 16777216) :
    Calls Try.prog 42 #[.slice a n cap, .int .i64 q] w fun e w' => e = .returned (.int .i64 (q + 2 * (n : Int))) ∧ w = w' := by
  rcases h with rfl | ⟨g, rfl, _, hm⟩
  · refine (held0 a cap q w).mono ?_
    rintro e w' ⟨rfl, rfl⟩
    exact ⟨by simp, rfl⟩
  · exact heldActionAt n g cap k0 q w hq hm hl hk0
theorem trF_len : ∀ f l, (trF f l).length ≤ l.length
  | 0, l => Nat.le_refl _
  | f + 1, l => by
    rw [trF]
    split
    · exact Nat.le_refl _
    · exact Nat.le_trans (trF_len f _) (List.length_eraseIdx_le ..)
theorem RTrimSchedule_len (l : List Ac) (n s : Int) (hl : l.length ≤ 1048576) : (RTrimSchedule l n s).length ≤ 1048576 := by
  unfold RTrimSchedule
  split
  · split
    · exact Nat.le_trans (trF_len _ _) hl
    · simp
  · simp

end Go.Proofs.Ytolpbflalbfhjaa
