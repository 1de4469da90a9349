/- slices.Delete of one action, in place. -/
import Derived.Test.YtolpbflalbfhjaaCkt
import Derived.Deep.RegionLaw
import Derived.Lib.SliceRun
import Derived.WalkKit
namespace Go.Proofs.Ytolpbflalbfhjaa
open Go.RowKit
set_option linter.unusedVariables false

/-- the cells of a list of actions -/
def flA : List Ac → List Value
  | [] => []
  | x :: r => .int .i64 x.kind :: .int .i64 x.arg :: flA r
theorem flA_len : ∀ l, (flA l).length = l.length * 2
  | [] => rfl
  | x :: r => by rw [flA, List.length_cons, List.length_cons, flA_len r, List.length_cons]; omega
theorem flA_one : ∀ l, ∀ u ∈ flA l, u.oneCell' = true
  | [], u, h => by cases h
  | x :: r, u, h => by
    rw [flA] at h
    rcases List.mem_cons.1 h with rfl | h
    · rfl
    · rcases List.mem_cons.1 h with rfl | h
      · rfl
      · exact flA_one r u h
theorem flA_get : ∀ (l : List Ac) (i : Nat), i < l.length → (flA l)[i * 2]? = some (.int .i64 (l.getD i noAc).kind) ∧ (flA l)[i * 2 + 1]? = some (.int .i64 (l.getD i noAc).arg)
  | [], i, h => by simp at h
  | x :: r, 0, h => ⟨rfl, rfl⟩
  | x :: r, i + 1, h => by
    have := flA_get r i (by simpa using h)
    rw [show (i + 1) * 2 = i * 2 + 1 + 1 by omega]
    exact ⟨by rw [flA, List.getElem?_cons_succ, List.getElem?_cons_succ, this.1]; rfl, by rw [flA, List.getElem?_cons_succ, List.getElem?_cons_succ, this.2]; rfl⟩
theorem flA_at {w : World} {L B b off : Nat} {l : List Ac} (h : AcAt w L B l (some ⟨b, off, none⟩)) : ∀ j u, (flA l)[j]? = some u → w.cell? ⟨b, off + j, none⟩ = some u := by
  intro j u hj
  have hlt : j < l.length * 2 := by
    have := (List.getElem?_eq_some_iff.1 hj).1
    rwa [flA_len] at this
  rcases h with h | ⟨b', off', e, hb, hc⟩
  · rw [h] at hlt; simp at hlt
  · simp only [Option.some.injEq, Addr.mk.injEq, and_true] at e
    obtain ⟨e1, e2⟩ := e; subst e1; subst e2
    obtain ⟨_, c0, c1⟩ := hc (j / 2) (by omega)
    obtain ⟨g0, g1⟩ := flA_get l (j / 2) (by omega)
    rcases Nat.mod_two_eq_zero_or_one j with hm | hm
    · have ej : j = j / 2 * 2 := by omega
      rw [ej, g0] at hj
      rw [ej, c0]; exact hj
    · have ej : j = j / 2 * 2 + 1 := by omega
      rw [ej, g1] at hj
      rw [ej, ← Nat.add_assoc, c1]; exact hj
theorem clear1 {P : Program} (w : World) (t e ty : TypeId) (ht : P.underlying t = some (.slice e)) (hv : ∀ w, (zeroValue e).run P w = .ok (.agg #[.int .i64 0, .int .i64 0]) w) (b o c : Nat)
    (hc : ∀ j, j < 2 → (w.cell? ⟨b, o + j, none⟩).isSome = true) (hf : ∀ j, j < 2 → w.frozen? ⟨b, o + j, none⟩ = false) :
    (Builtin.clear_ #[t] ty #[.slice (some ⟨b, o, none⟩) 1 c]).run P w = .ok (.tuple #[]) (w.setCells b o [.int .i64 0, .int .i64 0]) := by
  have hzc : (Builtin.zeroCells (Value.agg #[.int .i64 0, .int .i64 0]).cells 1).toList = [.int .i64 0, .int .i64 0] := by
    rw [show (Value.agg #[.int .i64 0, .int .i64 0]).cells = #[.int .i64 0, .int .i64 0] from rfl]
    simp [Builtin.zeroCells, List.range_succ]
  have hst := run_storeCells_cells (P := P) b o [.int .i64 0, .int .i64 0] 0 w (by simpa using hc) (by simpa using hf) (by intro v hv'; simp at hv'; subst hv'; rfl)
  simp only [Nat.add_zero] at hst
  simp [Builtin.clear_, run_underlying ht, hv, hzc, hst]

theorem kp_cells (g : Nat) : ∀ (vs : List Value) (o : Nat) (w : World), Kp (fun k => k = g) w (w.setCells g o vs)
  | [], _, w => Kp.refl _ _
  | v :: r, o, w => (Kp.set (S := fun k => k = g) (p := ⟨g, o, none⟩) rfl).trans (kp_cells g r (o + 1) _)
theorem size_cells (g : Nat) : ∀ (vs : List Value) (o : Nat) (w : World), (w.setCells g o vs).heap.size = w.heap.size
  | [], _, w => rfl
  | v :: r, o, w => by rw [World.setCells, size_cells g r (o + 1) _]; simp
theorem wr_cells {w : World} {L B n g : Nat} (h : Wr w L B n g) (vs : List Value) (o : Nat) (ho : o + vs.length ≤ n) : Wr (w.setCells g o vs) L B n g := by
  refine ⟨h.1, fun q => (World.frozen?_setCells _ _ _ _ _).trans (h.2.1 q), fun q hq => ?_⟩
  by_cases hin : o ≤ q ∧ q < o + vs.length
  · have := World.cell?_setCells_in g vs o w (fun j hj => by obtain ⟨v, hv⟩ := h.2.2 (o + j) (by omega); rw [hv]; rfl) (q - o) (by omega)
    rw [show o + (q - o) = q by omega] at this
    exact ⟨_, this⟩
  · obtain ⟨v, hv⟩ := h.2.2 q hq
    exact ⟨v, (World.cell?_setCells_out g vs o w ⟨g, q, none⟩ (fun _ _ => by show q < o ∨ o + vs.length ≤ q; omega)).trans hv⟩
theorem era_get (l : List Ac) (i k : Nat) : (l.eraseIdx i).getD k noAc = if k < i then l.getD k noAc else l.getD (k + 1) noAc := by
  rw [List.getD_eq_getElem?_getD, List.getElem?_eraseIdx]
  split <;> rw [List.getD_eq_getElem?_getD]
theorem del_at {w : World} {L g n0 : Nat} {l : List Ac} {i : Nat} (hi : i < l.length) (hA : AcAt w L w.heap.size l (some ⟨g, 0, none⟩)) (hW : Wr w L w.heap.size (n0 * 2) g) (hn : l.length ≤ n0) :
    AcAt (w.setCells g (0 + i * 2) (flA (l.drop (i + 1)))) L (w.setCells g (0 + i * 2) (flA (l.drop (i + 1)))).heap.size (l.eraseIdx i) (some ⟨g, 0, none⟩) := by
  have hln : (flA (l.drop (i + 1))).length = (l.length - (i + 1)) * 2 := by rw [flA_len, List.length_drop]
  rcases hA with hA | ⟨b', off', e, hb, hc⟩
  · rw [hA] at hi; simp at hi
  · simp only [Option.some.injEq, Addr.mk.injEq, and_true] at e
    obtain ⟨e1, e2⟩ := e; subst e1; subst e2
    refine .inr ⟨g, 0, rfl, by rw [size_cells]; exact hW.1, fun k hk => ?_⟩
    rw [List.length_eraseIdx_of_lt hi] at hk
    rw [era_get]
    by_cases hki : k < i
    · rw [if_pos hki]
      obtain ⟨r, c0, c1⟩ := hc k (by omega)
      refine ⟨r, (World.cell?_setCells_out g _ _ w ⟨g, 0 + k * 2, none⟩ (fun _ _ => .inl (by show 0 + k * 2 < _; omega))).trans c0, (World.cell?_setCells_out g _ _ w ⟨g, 0 + k * 2 + 1, none⟩ (fun _ _ => .inl (by show 0 + k * 2 + 1 < _; omega))).trans c1⟩
    · rw [if_neg hki]
      obtain ⟨r, _, _⟩ := hc (k + 1) (by omega)
      have hin := World.cell?_setCells_in g (flA (l.drop (i + 1))) (0 + i * 2) w (fun j hj => by
        rw [hln] at hj
        obtain ⟨v, hv⟩ := hW.2.2 (0 + i * 2 + j) (by omega); rw [hv]; rfl)
      obtain ⟨g0, g1⟩ := flA_get (l.drop (i + 1)) (k - i) (by rw [List.length_drop]; omega)
      rw [show (l.drop (i + 1)).getD (k - i) noAc = l.getD (k + 1) noAc by rw [List.getD_eq_getElem?_getD, List.getElem?_drop, List.getD_eq_getElem?_getD, show i + 1 + (k - i) = k + 1 by omega]] at g0 g1
      have h0 := hin ((k - i) * 2) (by rw [hln]; omega)
      have h1 := hin ((k - i) * 2 + 1) (by rw [hln]; omega)
      rw [show 0 + i * 2 + (k - i) * 2 = 0 + k * 2 by omega] at h0
      rw [show 0 + i * 2 + ((k - i) * 2 + 1) = 0 + k * 2 + 1 by omega] at h1
      exact ⟨r, h0.trans (by rw [← g0, List.getElem?_eq_getElem]), h1.trans (by rw [← g1, List.getElem?_eq_getElem])⟩
theorem zero_at {w : World} {L g o : Nat} {l : List Ac} {vs : List Value} (hA : AcAt w L w.heap.size l (some ⟨g, 0, none⟩)) (ho : l.length * 2 ≤ o) : AcAt (w.setCells g o vs) L (w.setCells g o vs).heap.size l (some ⟨g, 0, none⟩) := by
  rcases hA with hA | ⟨b', off', e, hb, hc⟩
  · exact .inl hA
  · simp only [Option.some.injEq, Addr.mk.injEq, and_true] at e
    obtain ⟨e1, e2⟩ := e; subst e1; subst e2
    refine .inr ⟨g, 0, rfl, by rw [size_cells]; exact hb, fun k hk => ?_⟩
    obtain ⟨r, c0, c1⟩ := hc k hk
    exact ⟨r, (World.cell?_setCells_out g _ _ w ⟨g, 0 + k * 2, none⟩ (fun _ _ => .inl (by show 0 + k * 2 < _; omega))).trans c0, (World.cell?_setCells_out g _ _ w ⟨g, 0 + k * 2 + 1, none⟩ (fun _ _ => .inl (by show 0 + k * 2 + 1 < _; omega))).trans c1⟩

set_option maxRecDepth 100000 in
set_option maxHeartbeats 4000000 in
theorem iDelete1 (l : List Ac) (i : Nat) (hi : i < l.length) (L g n0 cap : Nat) (w : World) (hA : AcAt w L w.heap.size l (some ⟨g, 0, none⟩)) (hW : Wr w L w.heap.size (n0 * 2) g) (hn : l.length ≤ n0) (hc : n0 ≤ cap) :
    Calls Try.prog 70 #[.slice (some ⟨g, 0, none⟩) l.length cap, .int .i64 i, .int .i64 ((i : Int) + 1)] w fun e w' => e = .returned (.slice (some ⟨g, 0, none⟩) (l.length - 1) cap) ∧ AcAt w' L w'.heap.size (l.eraseIdx i) (some ⟨g, 0, none⟩) ∧ Wr w' L w'.heap.size (n0 * 2) g ∧ Kp (fun k => k = g) w w' := by
  obtain ⟨i0, hi0, hz0, hz1, hz2⟩ := info_parts infoAc
  have hic : (i : Int) ≤ (cap : Int) := by omega
  have hij : (i : Int) + 1 ≤ (l.length : Int) := by omega
  have hne : ((i : Int) == (i : Int) + 1) = false := by simp; omega
  have hi9 : (0 : Int) ≤ (i : Int) + 1 := by omega
  have hlc : (l.length : Int) ≤ (cap : Int) := by omega
  have hjc : (i : Int) + 1 ≤ (cap : Int) := by omega
  have hm : (flA (l.drop (i + 1))).length = (l.length - (i + 1)) * 2 := by rw [flA_len, List.length_drop]
  obtain ⟨A, hpt, hsrc⟩ : ∃ A : Addr, (if cap = i + 1 then (some ⟨g, 0, none⟩ : Option Addr) else some ⟨g, (i + 1) * 2, none⟩) = some A ∧ Hid (∀ j u, (flA (l.drop (i + 1)))[j]? = some u → w.drew.cell? (A.add j) = some u) := by
    by_cases h : cap = i + 1
    · refine ⟨⟨g, 0, none⟩, if_pos h, fun j u hu => ?_⟩
      rw [show l.drop (i + 1) = [] from List.drop_eq_nil_of_le (by omega)] at hu
      simp [flA] at hu
    · refine ⟨⟨g, (i + 1) * 2, none⟩, if_neg h, fun j u hu => ?_⟩
      rw [Addr.add_lit]
      have := flA_at (hA.sub (k := i + 1)) j u hu
      rw [Nat.zero_add] at this
      exact this
  have s2 := Lib.hid (flA_one (l.drop (i + 1)))
  have s1 := Lib.hid hm
  have s3 : Hid (∀ t, t < (flA (l.drop (i + 1))).length → (w.drew.cell? ⟨g, 0 + i * 2 + t, none⟩).isSome = true ∧ w.drew.frozen? ⟨g, 0 + i * 2 + t, none⟩ = false) := by
    intro t ht
    rw [hm] at ht
    obtain ⟨v, hv⟩ := hW.2.2 (i * 2 + t) (by omega)
    rw [Nat.zero_add]
    exact ⟨by show (w.cell? _).isSome = true; rw [hv]; rfl, hW.2.1 _⟩
  have zdr : w.drew.heap.size = w.heap.size := rfl
  have hAd : AcAt w.drew L w.drew.heap.size l (some ⟨g, 0, none⟩) := hA.below (ckdrew (Below.refl _ _))
  have hWd : Wr w.drew L w.drew.heap.size (n0 * 2) g := hW.below (ckdrew (Below.refl _ _))
  have hA1 := del_at hi hAd hWd hn
  have hW1 := wr_cells hWd (flA (l.drop (i + 1))) (0 + i * 2) (by rw [hm]; omega)
  have hK1 : Kp (fun k => k = g) w (w.drew.setCells g (0 + i * 2) (flA (l.drop (i + 1)))) := (Kp.of_below (ckdrew (Below.refl _ _))).trans (kp_cells g _ _ _)
  have hz1' := size_cells g (flA (l.drop (i + 1))) (0 + i * 2) w.drew
  obtain ⟨W1, hw1⟩ : ∃ W1, W1 = w.drew.setCells g (0 + i * 2) (flA (l.drop (i + 1))) := ⟨_, rfl⟩
  rw [← hw1] at hA1 hW1 hK1 hz1'
  have hWE : Hid (w.drew.setCells g (0 + i * 2) (flA (l.drop (i + 1))) = W1) := hw1.symm
  have hle : (l.eraseIdx i).length = l.length - 1 := List.length_eraseIdx_of_lt hi
  have HCL : Hid (∀ ty, (Builtin.clear_ #[29] ty #[.slice (some ⟨g, (i + (l.length - (i + 1))) * 2, none⟩) (l.length - (i + (l.length - (i + 1)))) (cap - (i + (l.length - (i + 1))))]).run Try.prog W1 = .ok (.tuple #[]) (W1.setCells g ((i + (l.length - (i + 1))) * 2) [.int .i64 0, .int .i64 0])) := by
    intro ty
    rw [show l.length - (i + (l.length - (i + 1))) = 1 by omega]
    exact clear1 (P := Try.prog) W1 29 53 ty Try.underlying29 (fun w => by simp [go_sem]) g ((i + (l.length - (i + 1))) * 2) (cap - (i + (l.length - (i + 1)))) (fun j hj => by obtain ⟨v, hv⟩ := hW1.2.2 ((i + (l.length - (i + 1))) * 2 + j) (by omega); rw [hv]; rfl) (fun j hj => hW1.2.1 _)
  have HRES : Hid (AcAt (W1.setCells g ((i + (l.length - (i + 1))) * 2) [.int .i64 0, .int .i64 0]) L (W1.setCells g ((i + (l.length - (i + 1))) * 2) [.int .i64 0, .int .i64 0]).heap.size (l.eraseIdx i) (some ⟨g, 0, none⟩) ∧ Wr (W1.setCells g ((i + (l.length - (i + 1))) * 2) [.int .i64 0, .int .i64 0]) L (W1.setCells g ((i + (l.length - (i + 1))) * 2) [.int .i64 0, .int .i64 0]).heap.size (n0 * 2) g ∧ Kp (fun k => k = g) w (W1.setCells g ((i + (l.length - (i + 1))) * 2) [.int .i64 0, .int .i64 0])) :=
    ⟨zero_at hA1 (by rw [hle]; omega), by rw [size_cells, hz1']; exact wr_cells hW1 _ _ (by simp; omega), hK1.trans (kp_cells g _ _ _)⟩
  clear hw1 hA1 hW1 hK1 hz1' hAd hWd zdr hle
  clear hA hW hm
  generalize flA (l.drop (i + 1)) = news at *
  go_enter Try.func70, Try.ntmps70
  go_wp2_with fail
  go_region_held_law (fun _ => True) (trivial) ((refine step_append_room rfl (.tmp 22) (.tmp 25) 29 rfl 53 i0 2 Try.underlying29 hi0 hz1 g 0 i cap (by simp [Act.eval]) A (l.length - (i + 1)) (cap - (i + 1)) news (by simp [Act.eval]) s1.out hsrc.out s2.out (by omega) s3.out ?_; rw [hWE.out]))
  have hcl := HCL.out
  clear HCL hsrc s1 s2 s3 hWE
  go_wp2_with fail
  go_ret
  exact ⟨by rw [show i + (l.length - (i + 1)) = l.length - 1 by omega]; rfl, HRES.out⟩

/-- a list in memory of the call's own, that may be written -/
def TRow (w : World) (L : Nat) (v : Value) (l : List Ac) : Prop :=
  (l = [] ∧ ∃ a c, v = .slice a 0 c) ∨ ∃ g cap n0, v = .slice (some ⟨g, 0, none⟩) l.length cap ∧ AcAt w L w.heap.size l (some ⟨g, 0, none⟩) ∧ Wr w L w.heap.size (n0 * 2) g ∧ l.length ≤ n0 ∧ n0 ≤ cap
theorem eql_nil (w : World) (a : Option Addr) (n c n' c' : Nat) : (binOp .eql 29 (.slice a n c) (.slice none n' c')).run Try.prog w = .ok (.bool a.isNone) w :=
  Lib.run_eql_slice_nil w _ _ a n c n' c' Try.underlying29
theorem row_of {w : World} {base n : Nat} {v : Value} {l : List Ac} (hl : l.length = n) (hr : ∀ k, RAc (l.getD k noAc)) (h : w.ownsRow base 53 2 v n (flA l)) : TRow w base v l := by
  subst hl
  by_cases h0 : l.length = 0
  · refine .inl ⟨List.eq_nil_of_length_eq_zero h0, ?_⟩
    rcases h.2 with ⟨rfl, _⟩ | ⟨g, cap, cur, rfl, _⟩
    · exact ⟨_, _, rfl⟩
    · exact ⟨_, _, by rw [h0]⟩
  · rcases h.2 with ⟨_, hz⟩ | ⟨g, cap, cur, rfl, hlo, _, hnc, _⟩
    · exact absurd hz h0
    · have hlt := (World.ownsRow.lt h _ rfl).2
      refine .inr ⟨g, cap, l.length, rfl, .inr ⟨g, 0, rfl, ⟨hlo, hlt⟩, fun i hi => ?_⟩, ⟨⟨hlo, hlt⟩, fun o => h.frozenAt o, fun o ho => ?_⟩, Nat.le_refl _, hnc⟩
      · obtain ⟨g0, g1⟩ := flA_get l i hi
        rw [Nat.zero_add]
        exact ⟨hr i, (h.cellAt _ (by omega)).trans g0, (h.cellAt _ (by omega)).trans g1⟩
      · exact ⟨_, (h.cellAt o ho).trans (List.getElem?_eq_getElem (by rw [flA_len]; omega))⟩

set_option maxRecDepth 100000 in
set_option maxHeartbeats 4000000 in
theorem iClone (l : List Ac) (a : Option Addr) (cap : Nat) (w : World) (hA : AcAt w 0 w.heap.size l a) (hs : l.length ≤ 400) :
    Calls Try.prog 68 #[.slice a l.length cap] w fun e w' => ∃ v, e = .returned v ∧ TRow w' w.heap.size v l ∧ Below w.heap.size w w' := by
  obtain ⟨i0, hi, hz0, hz1, hz2⟩ := info_parts infoAc
  have q := fun W n c n' c' => eql_nil W a n c n' c'
  have HR := Lib.hid (fun k => hA.row k)
  cases a with
  | none =>
    have hl : l = [] := by
      rcases hA with h | ⟨_, _, e, _⟩
      · exact h
      · cases e
    subst hl
    go_enter Try.func68, Try.ntmps68
    go_wp2_with fail
    go_ret
    exact ⟨_, rfl, .inl ⟨rfl, _, _, rfl⟩, Below.refl _ _⟩
  | some ad =>
    have hsrc : Hid (∀ (o : Obj) j u, (flA l)[j]? = some u → (w.alloc o).cell? (ad.add j) = some u) := by
      intro o j u hu
      rcases hA with h | ⟨b, off, e, hb, hc⟩
      · rw [h] at hu; simp [flA] at hu
      · simp only [Option.some.injEq] at e
        subst e
        rw [Addr.add_lit]
        exact Lib.cell?_alloc_some _ (flA_at (.inr ⟨b, off, rfl, hb, hc⟩) j u hu)
    have hl2 := Lib.hid (flA_len l)
    have h1 := Lib.hid (flA_one l)
    clear hA
    go_enter Try.func68, Try.ntmps68
    go_wp2_with (at_builtin; refine wpList_append_own _ rfl _ _ 29 rfl w.heap.size 53 i0 _ 2 16 Try.underlying29 hi hz0 hz1 hz2 rfl (by omega) _ _ _ rfl (World.ownsRow_made w #[] 0 (Nat.le_refl _) (Nat.zero_le _) (by simp)) ad l.length cap (flA l) rfl ?qc1 ?qc2 ?qc3 ?qc4 ?qc5 ?qc6 ?_)
    case qc1 => exact hl2.out
    case qc2 => exact hsrc.out _
    case qc3 => exact h1.out
    case qc4 => unfold maxLen; omega
    case qc5 => omega
    case qc6 => simp
    intro v' w1 hown hgrow hnil
    go_wp2_with fail
    go_ret
    refine ⟨v', rfl, row_of rfl HR.out (by simpa using hown), ?_⟩
    exact ((Below.refl _ w).alloc (Nat.le_refl _) _).grown hgrow (by simp) (by intro k hk; simp [Value.ownBlock] at hk; omega)

end Go.Proofs.Ytolpbflalbfhjaa
