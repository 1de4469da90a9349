/- Tapes: which ones are valid by the program. -/
import Derived.Test.YtemmbacdilepgaaGreatTap2
import Derived.Test.YtemmbacdilepgaaGreatOps
import Derived.Lib.LazyBuf
namespace Go.Proofs.YtemmbacdilepgaaGreat
open Go.RowKit
set_option linter.unusedVariables false

set_option maxHeartbeats 400000 in
theorem tIx (k n : Int) (w : World) : Calls Tryz.prog 74 #[.int .i64 k, .int .i64 n] w fun e w' => e = .returned (.bool (ixB k n)) ∧ w = w' := by
  by_cases h1 : 0 ≤ k
  · by_cases h2 : k < n
    · have HF : Hid (ixB k n = true) := decide_eq_true ⟨h1, h2⟩
      have d1 : decide (0 ≤ k) = true := decide_eq_true h1
      have d2 : decide (k < n) = true := decide_eq_true h2
      go_enter Tryz.func74, Tryz.ntmps74
      go_wp2
      go_ret
      exact ⟨ret_bool HF.out.symm, rfl⟩
    · have HF : Hid (ixB k n = false) := decide_eq_false (by omega)
      have d1 : decide (0 ≤ k) = true := decide_eq_true h1
      have d2 : decide (k < n) = false := decide_eq_false h2
      go_enter Tryz.func74, Tryz.ntmps74
      go_wp2
      go_ret
      exact ⟨ret_bool HF.out.symm, rfl⟩
  · have HF : Hid (ixB k n = false) := decide_eq_false (by omega)
    have d1 : decide (0 ≤ k) = false := decide_eq_false h1
    go_enter Tryz.func74, Tryz.ntmps74
    go_wp2
    go_ret
    exact ⟨ret_bool HF.out.symm, rfl⟩

theorem news_of_at {w w0 : World} {b o : Nat} {l : List Int} (hc : ∀ k, k < l.length → w0.cell? ⟨b, o + k, none⟩ = some (.int .i64 (l.getD k 0))) :
    ∀ (j : Nat) (u : Value), (l.map (Value.int .i64))[j]? = some u → w0.cell? ((⟨b, o, none⟩ : Addr).add j) = some u := by
  intro j u hj
  rw [List.getElem?_map] at hj
  have hjl : j < l.length := by
    apply Nat.lt_of_not_le
    intro hge
    rw [List.getElem?_eq_none hge] at hj
    cases hj
  have e : (⟨b, o, none⟩ : Addr).add j = ⟨b, o + j, none⟩ := by cases j <;> simp [Addr.add]
  rw [e, hc j hjl, ← hj, List.getElem?_eq_getElem hjl, List.getD_eq_getElem?_getD, List.getElem?_eq_getElem hjl]
  rfl

set_option maxRecDepth 100000 in
set_option maxHeartbeats 1600000 in
theorem iClone (a : Option Addr) (ca : Nat) (l : List Int) (w : World) (ha : At w a l) (h1 : 1 ≤ l.length) (h2 : l.length ≤ 1048576) :
    Calls Tryz.prog 133 #[.slice a l.length ca] w (Fresh w l) := by
  obtain ⟨i0, hi, hz0, hz1, hz2⟩ := info_parts info64
  obtain ⟨b1, o1, rfl, hbl1, hc1⟩ := (ha.resolve_left (by intro e; rw [e] at h1; simp at h1))
  have hB0 := (Below.refl w.heap.size w).alloc (Nat.le_refl _) (.cells #[] 2)
  have hO0 := own_none w w.heap.size (Nat.le_refl _)
  have HN := Lib.hid (news_of_at (w := w) (w0 := w.alloc (.cells #[] 2)) (b := b1) (o := o1) (l := l) (fun k hk => (hB0.cell (p := ⟨b1, o1 + k, none⟩) hbl1).trans (hc1 k hk)))
  have hone : Hid (∀ u ∈ l.map (Value.int .i64), u.oneCell' = true) := ints_oneCell .i64 l
  have hnil := fun (W : World) => Lib.run_eql_slice_nil (P := Tryz.prog) W 25 2 (some ⟨b1, o1, none⟩) l.length ca 0 0 Tryz.underlying25
  clear hc1 ha
  go_enter Tryz.func133, Tryz.ntmps133
  go_wp2_with (at_builtin; refine wpList_append_lies _ rfl _ _ _ rfl w.heap.size 2 i0 _ 1 8 Tryz.underlying25 hi hz0 hz1 hz2 rfl (by omega) (.slice (some ⟨w.heap.size, 0, none⟩) 0 0) 0 [] rfl hO0 ⟨b1, o1, none⟩ l.length ca (l.map (Value.int .i64)) rfl (by rw [List.length_map, Nat.mul_one]) HN.out hone.out (by omega) (by unfold maxLen; omega) (by omega) (by simp) (w.heap.size + 1) (by simp) ?_; intro g cc w1 hown1 hgrow hat hlt1)
  have hw2 : Below w.heap.size w w1 := hB0.grown hgrow (by simp) (by intro q hq; simp [Value.ownBlock] at hq; omega)
  have ho3 : Own w.heap.size w1 g cc l := by unfold Own; simpa using hown1
  clear hown1 hgrow hat
  go_wp2_with fail
  go_ret
  exact ⟨g, cc, by simp, ho3, hw2⟩

end Go.Proofs.YtemmbacdilepgaaGreat
