/- Contracts at a length n for lists of residues: exponentials, logarithms, derivatives, integrals, compositions, reversed series. -/
import Derived.Test.YtodoamklikicpaaDrs
namespace Go.Proofs.Ytodoamklikicpaa
open Go.RowKit

theorem derN (n : Nat) (a : Option Addr) (ca : Nat) (l : List Int) (w : World) (ha : At w a l) (h : Hid (l.length = n)) (h1 : 1 ≤ n) (h2 : n ≤ 13) (hn : Nums l) :
    Calls Try.prog 12 #[.slice a n ca] w (ResN w n (dls l) 0) := by
  have o := okS_of h h1 h2 hn
  have e1 := h.out
  have k := iDerivativeOf a ca l w ha hn.rng (by omega)
  rw [e1] at k
  exact k.mono fun _ _ r => resN_of r (by unfold allDerivativeOf; rw [if_pos o]; rfl) (by unfold alcDerivativeOf; rw [if_pos o]; rfl) (by rw [dls_len]; exact e1)
theorem frontN (n : Nat) (q : Int) (a b : Option Addr) (ca cb B : Nat) (l m : List Int) (w : World) (hq : Hid (q = ((n - 1 : Nat) : Int))) (ha : OwnA B w a ca l) (hb : OwnA B w b cb m) (h : Hid (l.length = n)) (h' : Hid (m.length = n)) (h1 : 1 ≤ n) (h2 : n ≤ 13)
    (he : ∀ k, k + 1 < n → l.getD k 0 = m.getD k 0) :
    Calls Try.prog 14 #[.slice a n ca, .slice b n cb, .int .i64 q] w fun e w' => e = .returned (.bool true) ∧ Below w.heap.size w w' := by
  have e1 := h.out
  have e2 := h'.out
  obtain ⟨g1, rfl, o1⟩ := ha.resolve_left (by intro e; rw [e] at e1; simp at e1; omega)
  obtain ⟨g2, rfl, o2⟩ := hb.resolve_left (by intro e; rw [e] at e2; simp at e2; omega)
  have hl1 : (l.take (n - 1)).length = n - 1 := by simp; omega
  have hl2 : (m.take (n - 1)).length = n - 1 := by simp; omega
  have c1 := o1.cap_le
  have c2 := o2.cap_le
  rw [hq.out]
  refine a2Front n (n - 1) g1 g2 ca cb l m w o1.at o2.at (by omega) (by omega) (by omega) (by omega) hl1 ?_
  show _ = _
  apply list_eq (by rw [hl1, hl2])
  intro k hk
  rw [hl1] at hk
  have t1 : (l.take (n - 1)).getD k 0 = l.getD k 0 := by simp [List.getD_eq_getElem?_getD, hk]
  have t2 : (m.take (n - 1)).getD k 0 = m.getD k 0 := by simp [List.getD_eq_getElem?_getD, hk]
  rw [t1, t2]
  exact he k (by omega)
theorem OwnA.mono {B B' : Nat} {w : World} {a : Option Addr} {cap : Nat} {l : List Int} (h : OwnA B w a cap l) (hB : B' ≤ B) : OwnA B' w a cap l := by
  rcases h with h | ⟨g, h1, h2⟩
  · exact .inl h
  · exact .inr ⟨g, h1, Own.mono h2 hB⟩
theorem set_zero {l : List Int} (h : 1 ≤ l.length) : (l.set 0 0).getD 0 0 = 0 := by
  cases l with
  | nil => simp at h
  | cons x r => rfl

theorem cmpN (n : Nat) (a b : Option Addr) (ca cb : Nat) (l m : List Int) (w : World) (ha : At w a l) (hb : At w b m) (h : Hid (l.length = n)) (h' : Hid (m.length = n)) (h1 : 1 ≤ n) (h2 : n ≤ 13) (hn : Nums l) (hn' : Nums m) (h0 : m.getD 0 0 = 0) :
    Calls Try.prog 10 #[.slice a n ca, .slice b n cb] w (ResN w n (cmpl l m) 0) := by
  have t := two_of h h' h1 h2 hn hn'
  have e1 := h.out
  have e2 := h'.out
  have k := iComposeSeries a b ca cb l m w ha hb hn.rng hn'.rng (by omega) (by omega)
  rw [e1, e2] at k
  exact k.mono fun _ _ r => resN_of r (by unfold allCompose ifTwo resCompose; rw [if_pos t, if_pos h0]) (by unfold alcCompose codCompose; rw [if_pos t, if_pos h0]) (by rw [cmpl_len]; exact e1)

end Go.Proofs.Ytodoamklikicpaa
