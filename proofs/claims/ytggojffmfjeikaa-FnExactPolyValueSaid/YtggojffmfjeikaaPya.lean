/- Rows (Term): where they lie in memory. -/
import Derived.Test.YtggojffmfjeikaaTas
namespace Go.Proofs.Ytggojffmfjeikaa
open Go.RowKit
set_option linter.unusedVariables false

/-- One of the rows. -/
structure Tm where
  exps : List Int
  coef : Int
def noTm : Tm := ⟨[], 0⟩
def RTm (x : Tm) : Prop := (Rng x.exps ∧ x.exps.length ≤ maxLen) ∧ I64 x.coef
theorem rTm_no : RTm noTm := ⟨⟨fun n hn => by simp [noTm] at hn, by decide⟩, ⟨by decide, by decide⟩⟩
abbrev tmv (x : Tm) (a : Option Addr) (c : Nat) : Value := .agg #[.slice a x.exps.length c, .int .i64 x.coef]
/-- The rows lie one behind the other from the address on; their lists too lie in blocks from L on and ahead of B. -/
def TmAt (w : World) (L B : Nat) (l : List Tm) (a : Option Addr) : Prop :=
  l = [] ∨ ∃ b off, a = some ⟨b, off, none⟩ ∧ (L ≤ b ∧ b < B) ∧ ∀ i, i < l.length → RTm (l.getD i noTm) ∧ ∃ x y, w.cell? ⟨b, off + i * 2, none⟩ = some (.slice x (l.getD i noTm).exps.length y) ∧ w.cell? ⟨b, off + i * 2 + 1, none⟩ = some (.int .i64 (l.getD i noTm).coef) ∧ Oat w L B (l.getD i noTm).exps x
theorem TmAt.agree {w w' : World} {L B : Nat} {l : List Tm} {a : Option Addr} (h : TmAt w L B l a) (hb : ∀ k, L ≤ k → k < B → w'.heap[k]? = w.heap[k]?) : TmAt w' L B l a := by
  rcases h with h | ⟨b, off, h1, h2, h3⟩
  · exact .inl h
  · refine .inr ⟨b, off, h1, h2, fun i hi => ?_⟩
    obtain ⟨r, x, y, c0, c1, ho⟩ := h3 i hi
    have cl : ∀ o v, w.cell? ⟨b, o, none⟩ = some v → w'.cell? ⟨b, o, none⟩ = some v := fun o v h => (World.cell?_of_block (a := ⟨b, o, none⟩) (hb b h2.1 h2.2)).trans h
    exact ⟨r, x, y, cl _ _ c0, cl _ _ c1, ho.agree hb⟩
theorem TmAt.below {w w' : World} {L B : Nat} {l : List Tm} {a : Option Addr} (h : TmAt w L B l a) (hb : Below B w w') : TmAt w' L B l a := h.agree fun k _ h => hb.block k h
theorem TmAt.mono {w : World} {L L' B B' : Nat} (hL : L' ≤ L) (hB : B ≤ B') {l : List Tm} {a : Option Addr} (h : TmAt w L B l a) : TmAt w L' B' l a := by
  rcases h with h | ⟨b, off, h1, h2, h3⟩
  · exact .inl h
  · refine .inr ⟨b, off, h1, by omega, fun i hi => ?_⟩
    obtain ⟨r, x, y, c0, c1, ho⟩ := h3 i hi
    exact ⟨r, x, y, c0, c1, ho.mono hL hB⟩
theorem TmAt.next {w w' : World} {l : List Tm} {a : Option Addr} {L : Nat} (h : TmAt w L w.heap.size l a) (hb : Below w.heap.size w w') : TmAt w' L w'.heap.size l a := (h.below hb).mono (Nat.le_refl _) hb.size
theorem TmAt.row {w : World} {L B : Nat} {l : List Tm} {a : Option Addr} (h : TmAt w L B l a) (k : Nat) : RTm (l.getD k noTm) := by
  by_cases hk : k < l.length
  · rcases h with rfl | ⟨_, _, _, _, h⟩
    · simp at hk
    · exact (h k hk).1
  · rw [List.getD_eq_getElem?_getD, List.getElem?_eq_none (by omega)]; exact rTm_no

set_option maxRecDepth 100000 in
theorem cellsTm : Try.prog.cellsOf 108 = 2 := by kernel_rfl

theorem tm_build {w : World} {L B b off : Nat} (hB : L ≤ b ∧ b < B) : ∀ (m : Nat), (∀ i, i < m → ∃ f : Tm, RTm f ∧ ∃ x y,
      w.cell? ⟨b, off + i * 2, none⟩ = some (.slice x f.exps.length y) ∧ w.cell? ⟨b, off + i * 2 + 1, none⟩ = some (.int .i64 f.coef) ∧ Oat w L B f.exps x) → ∃ l : List Tm, l.length = m ∧ TmAt w L B l (some ⟨b, off, none⟩) := by
  intro m
  induction m with
  | zero => intro _; exact ⟨[], rfl, .inl rfl⟩
  | succ m ih =>
    intro h
    obtain ⟨l, hl, hp⟩ := ih (fun i hi => h i (by omega))
    obtain ⟨f, hf⟩ := h m (by omega)
    refine ⟨l ++ [f], by simp [hl], .inr ⟨b, off, rfl, hB, fun i hi => ?_⟩⟩
    by_cases him : i = m
    · subst him
      have e : (l ++ [f]).getD i noTm = f := by rw [List.getD_eq_getElem?_getD, List.getElem?_append_right (by omega), hl, Nat.sub_self]; rfl
      rw [e]
      exact hf
    · have hi' : i < l.length := by simp at hi; omega
      have e : (l ++ [f]).getD i noTm = l.getD i noTm := by rw [List.getD_eq_getElem?_getD, List.getD_eq_getElem?_getD, List.getElem?_append_left hi']
      rw [e]
      rcases hp with hp | ⟨b', off', hbo, _, hall⟩
      · rw [hp] at hi'; simp at hi'
      · simp only [Option.some.injEq, Addr.mk.injEq] at hbo
        obtain ⟨rfl, rfl, _⟩ := hbo
        exact hall i hi'

set_option maxRecDepth 100000 in
theorem openTms {H : Type} {enc : TypeId × Value → H} {W : World} (fuel : Nat) (cs : List Value) (x : DataW H × List MemPlace) (h : DataW.trod enc Try.prog W 0 (fun _ => true) true fuel 22 cs = some x) :
    ∃ a l cap, cs = [.slice a (List.length l) cap] ∧ TmAt W 0 W.heap.size l a ∧ l.length ≤ maxLen := by
  obtain ⟨a, len, cap, rfl, hlen, h⟩ := openRows Try.underlying22 cellsTm (by decide) fuel cs x h
  rcases h with rfl | ⟨b, off, n, rfl, hb, hall⟩
  · exact ⟨a, [], cap, rfl, .inl rfl, Nat.zero_le _⟩
  · obtain ⟨l, hl', hP⟩ := tm_build (w := W) (L := 0) (B := W.heap.size) (off := off) ⟨Nat.zero_le _, hb⟩ len (fun i hi => by
      obtain ⟨cs', y, hlc, g, h2⟩ := hall i hi
      obtain ⟨xs, n', rfl, _, _, hxl, hf⟩ := DataW.trod_struct Try.underlying108 h2
      match cs', hlc with
      | [c0, c1], _ =>
        have q0 := hf 0 _ rfl
        have q1 := hf 1 _ rfl
        obtain ⟨a0, k0, s0, e0, o0, r0, m0⟩ := openInts n' _ _ (q0.trans (List.getElem?_eq_getElem (by rw [hxl]; decide)))
        obtain ⟨k1, e1, _, r1⟩ := DataW.trod_int Try.underlying2 (q1.trans (List.getElem?_eq_getElem (by rw [hxl]; decide)))
        obtain rfl : c0 = .slice a0 k0.length s0 := List.head_eq_of_cons_eq e0
        obtain rfl : c1 = .int .i64 k1 := List.head_eq_of_cons_eq e1
        exact ⟨⟨k0, k1⟩, ⟨⟨r0, m0⟩, bounds_i64 r1⟩, a0, s0, g 0 (by omega), g 1 (by omega), o0.oat⟩)
    exact ⟨_, l, cap, by rw [hl'], hP, by omega⟩

end Go.Proofs.Ytggojffmfjeikaa
