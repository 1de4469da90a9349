/- Functions that are called: the model. -/
import Derived.Laws.CopyOwn
import Derived.Deep.AppendLies
import Derived.Test.YtiimebiecihpkaaOps
import Derived.Test.YtiimebiecihpkaaSy
namespace Go.Proofs.Ytiimebiecihpkaa
open Go.RowKit
set_option linter.unusedVariables false

/-- a number put to its place among rising ones, once -/
def putL : List Int → Int → List Int
  | [], n => [n]
  | x :: l, n => if x < n then x :: putL l n else if x = n then x :: l else n :: x :: l
theorem putL_len (l : List Int) (n : Int) : (putL l n).length ≤ l.length + 1 := by
  induction l with
  | nil => simp [putL]
  | cons x l ih => unfold putL; split <;> (try split) <;> simp <;> omega
theorem putL_rng {l : List Int} {n : Int} (h : Rng l) (hn : -9223372036854775808 ≤ n ∧ n ≤ 9223372036854775807) : Rng (putL l n) := by
  induction l with
  | nil => intro x hx; simp [putL] at hx; rw [hx]; exact hn
  | cons y l ih =>
    have h1 := h y (by simp)
    have h2 : Rng l := fun x hx => h x (by simp [hx])
    have h3 := ih h2
    unfold putL
    intro x hx
    split at hx
    · rcases List.mem_cons.1 hx with rfl | hx
      · exact h1
      · exact h3 x hx
    · split at hx
      · exact h x hx
      · rcases List.mem_cons.1 hx with rfl | hx
        · exact hn
        · exact h x hx
theorem drop_cons_getD {l : List Int} {i : Nat} (h : i < l.length) : l.drop i = l.getD i 0 :: l.drop (i + 1) := by
  rw [List.drop_eq_getElem_cons h, List.getD_eq_getElem?_getD, List.getElem?_eq_getElem h]; rfl
def putR (dn : Bool) (r : List Int) (n : Int) : List Int := if dn then r else putL r n

set_option maxRecDepth 100000 in
set_option maxHeartbeats 3200000 in
theorem sPut (a : Option Addr) (ca : Nat) (l : List Int) (n : Int) (w : World) (ha : At w a l) (hr : Rng l) (hl : l.length ≤ 1048576) :
    Calls Try.prog 126 #[.slice a l.length ca, .int .i64 n] w (Fresh w (putL l n)) := by
  obtain ⟨i0, hi, hz0, hz1, hz2⟩ := info_parts info64
  have hB0 := (Below.refl w.heap.size w).alloc (Nat.le_refl _) (.cells #[] 2)
  have hO0 := own_none w w.heap.size (Nat.le_refl _)
  have H0 : Hid (putL l n = [] ++ putR false (l.drop 0) n) := rfl
  go_enter Try.func126, Try.ntmps126
  go_wp2_with fail
  go_loopw [5, 6, 7] (fun v d i wr => ∃ (k g cap : Nat) (xs : List Int) (dn : Bool), k ≤ l.length ∧ i = .int .i64 k ∧ d = .bool dn ∧ v = .slice (some ⟨g, 0, none⟩) xs.length cap ∧ xs.length ≤ k + dn.toNat ∧ Hid (putL l n = xs ++ putR dn (l.drop k) n) ∧ Own w.heap.size wr g cap xs ∧ Below w.heap.size w wr) (fun _ _ i _ => l.length - (intOf i).toNat)
  case atStart => exact ⟨0, w.heap.size, 0, [], false, Nat.zero_le _, rfl, rfl, rfl, by simp, H0, hO0, hB0⟩
  case round =>
    obtain ⟨k, g, cap, xs, dn, hk, rfl, rfl, rfl, hxl, HX, ho, hw⟩ := hrel
    clear H0 hO0 hB0
    have hsz := hw.size
    have hxk : xs.length ≤ k + 1 := by cases dn <;> simp at hxl <;> omega
    by_cases hlt : k < l.length
    · obtain ⟨b1, o1, rfl, hbl1, hc1⟩ := (ha.resolve_left (by intro e; rw [e] at hlt; simp at hlt))
      have h1 : wr.cell? ⟨b1, o1 + k, none⟩ = some (.int .i64 (l.getD k 0)) := (hw.cell (p := ⟨b1, o1 + k, none⟩) hbl1).trans (hc1 k hlt)
      have hki : (k : Int) < (l.length : Int) := by omega
      have hdc := drop_cons_getD hlt
      have r1 := hr.at k
      clear hc1 ha
      generalize l.getD k 0 = x at h1 r1 hdc
      cases dn with
      | true =>
        have HX2 : Hid (putL l n = (xs ++ [x]) ++ putR true (l.drop (k + 1)) n) := by
          show _ = _
          rw [HX.out, hdc]; simp [putR]
        clear HX hdc
        have hgl := ho.base
        go_wp2_with (at_builtin; refine wpList_append_lies _ rfl _ _ _ rfl w.heap.size 2 i0 _ 1 8 Try.underlying23 hi hz0 hz1 hz2 rfl (by omega) (.slice (some ⟨g, 0, none⟩) (xs).length cap) (xs).length ((xs).map (Value.int .i64)) rfl (ho.alloc _) ⟨wr.heap.size, 0, none⟩ 1 1 [.int .i64 x] rfl rfl (World.news_of_block (cs := #[.int .i64 x]) (t := 2) (fr := (0, 0)) (heap_alloc_new wr _)) (by simp [Value.oneCell']) (by omega) (by unfold maxLen; omega) (by omega) (by simp; omega) (wr.heap.size + 1) (by simp) ?_; intro gg cc w1 hown1 hgrow hat hlt1)
        have hw2 : Below w.heap.size w w1 := (hw.alloc hsz (.cells #[.int .i64 x] 2)).grown hgrow (by simp; omega) (by intro q hq; simp [Value.ownBlock] at hq; omega)
        have ho3 := own_appended hown1
        clear hgrow hown1 hat hgl
        go_wp2_with fail
        go_roundw
        case rel => exact ⟨k + 1, gg, cc, xs ++ [x], true, by omega, by go_num, rfl, by simp, by simp; omega, HX2, ho3, hw2⟩
        case measure => simp [intOf]; omega
      | false =>
        have hxf : xs.length ≤ k := by simpa using hxl
        rcases (by omega : x < n ∨ x = n ∨ n < x) with hxn | hxn | hxn
        · have HX2 : Hid (putL l n = (xs ++ [x]) ++ putR false (l.drop (k + 1)) n) := by
            show _ = _
            rw [HX.out, hdc]; simp [putR, putL, hxn]
          have d1 : decide (n ≤ x) = false := decide_eq_false (by omega)
          have d2 : decide (n < x) = false := decide_eq_false (by omega)
          clear HX hdc
          have hgl := ho.base
          go_wp2_with (at_builtin; refine wpList_append_lies _ rfl _ _ _ rfl w.heap.size 2 i0 _ 1 8 Try.underlying23 hi hz0 hz1 hz2 rfl (by omega) (.slice (some ⟨g, 0, none⟩) (xs).length cap) (xs).length ((xs).map (Value.int .i64)) rfl (ho.alloc _) ⟨wr.heap.size, 0, none⟩ 1 1 [.int .i64 x] rfl rfl (World.news_of_block (cs := #[.int .i64 x]) (t := 2) (fr := (0, 0)) (heap_alloc_new wr _)) (by simp [Value.oneCell']) (by omega) (by unfold maxLen; omega) (by omega) (by simp; omega) (wr.heap.size + 1) (by simp) ?_; intro gg cc w1 hown1 hgrow hat hlt1)
          have hw2 : Below w.heap.size w w1 := (hw.alloc hsz (.cells #[.int .i64 x] 2)).grown hgrow (by simp; omega) (by intro q hq; simp [Value.ownBlock] at hq; omega)
          have ho3 := own_appended hown1
          clear hgrow hown1 hat hgl
          go_wp2_with fail
          go_roundw
          case rel => exact ⟨k + 1, gg, cc, xs ++ [x], false, by omega, by go_num, rfl, by simp, by simp; omega, HX2, ho3, hw2⟩
          case measure => simp [intOf]; omega
        · have HX2 : Hid (putL l n = (xs ++ [x]) ++ putR true (l.drop (k + 1)) n) := by
            show _ = _
            rw [HX.out, hdc]; simp [putR, putL, hxn]
          have d1 : decide (n ≤ x) = true := decide_eq_true (by omega)
          have d2 : decide (n < x) = false := decide_eq_false (by omega)
          clear HX hdc hxn
          have hgl := ho.base
          go_wp2_with (at_builtin; refine wpList_append_lies _ rfl _ _ _ rfl w.heap.size 2 i0 _ 1 8 Try.underlying23 hi hz0 hz1 hz2 rfl (by omega) (.slice (some ⟨g, 0, none⟩) (xs).length cap) (xs).length ((xs).map (Value.int .i64)) rfl (ho.alloc _) ⟨wr.heap.size, 0, none⟩ 1 1 [.int .i64 x] rfl rfl (World.news_of_block (cs := #[.int .i64 x]) (t := 2) (fr := (0, 0)) (heap_alloc_new wr _)) (by simp [Value.oneCell']) (by omega) (by unfold maxLen; omega) (by omega) (by simp; omega) (wr.heap.size + 1) (by simp) ?_; intro gg cc w1 hown1 hgrow hat hlt1)
          have hw2 : Below w.heap.size w w1 := (hw.alloc hsz (.cells #[.int .i64 x] 2)).grown hgrow (by simp; omega) (by intro q hq; simp [Value.ownBlock] at hq; omega)
          have ho3 := own_appended hown1
          clear hgrow hown1 hat hgl
          go_wp2_with fail
          go_roundw
          case rel => exact ⟨k + 1, gg, cc, xs ++ [x], true, by omega, by go_num, rfl, by simp, by simp; omega, HX2, ho3, hw2⟩
          case measure => simp [intOf]; omega
        · have HX2 : Hid (putL l n = ((xs ++ [n]) ++ [x]) ++ putR true (l.drop (k + 1)) n) := by
            show _ = _
            have h5 : ¬ x < n := by omega
            have h6 : ¬ x = n := by omega
            rw [HX.out, hdc]; simp [putR, putL, h5, h6]
          have d1 : decide (n ≤ x) = true := decide_eq_true (by omega)
          have d2 : decide (n < x) = true := decide_eq_true hxn
          clear HX hdc
          have hgl := ho.base
          go_wp2_with (at_builtin; refine wpList_append_lies _ rfl _ _ _ rfl w.heap.size 2 i0 _ 1 8 Try.underlying23 hi hz0 hz1 hz2 rfl (by omega) (.slice (some ⟨g, 0, none⟩) (xs).length cap) (xs).length ((xs).map (Value.int .i64)) rfl (ho.alloc _) ⟨wr.heap.size, 0, none⟩ 1 1 [.int .i64 n] rfl rfl (World.news_of_block (cs := #[.int .i64 n]) (t := 2) (fr := (0, 0)) (heap_alloc_new wr _)) (by simp [Value.oneCell']) (by omega) (by unfold maxLen; omega) (by omega) (by simp; omega) (wr.heap.size + 1) (by simp) ?_)
          intro gg cc w1 hown1 hgrow hat hlt1
          have hw2 : Below w.heap.size w w1 := (hw.alloc hsz (.cells #[.int .i64 n] 2)).grown hgrow (by simp; omega) (by intro q hq; simp [Value.ownBlock] at hq; omega)
          have ho3 := own_appended hown1
          clear hgrow hown1 hat hgl
          have h2 : w1.cell? ⟨b1, o1 + k, none⟩ = some (.int .i64 x) := by
            have e1 := hw2.cell (p := ⟨b1, o1 + k, none⟩) hbl1
            have e2 := hw.cell (p := ⟨b1, o1 + k, none⟩) hbl1
            exact e1.trans (e2.symm.trans h1)
          have hsz2 := hw2.size
          clear h1 ho
          generalize hxs2 : xs ++ [n] = ys at ho3 HX2
          have hyl : ys.length ≤ k + 1 := by rw [← hxs2]; simp; omega
          have hyl2 : xs.length + 1 = ys.length := by rw [← hxs2]; simp
          rw [hyl2]
          clear hxs2 hyl2 hw hsz
          have hgl := ho3.base
          go_wp2_with (at_builtin; refine wpList_append_lies _ rfl _ _ _ rfl w.heap.size 2 i0 _ 1 8 Try.underlying23 hi hz0 hz1 hz2 rfl (by omega) (.slice (some ⟨gg, 0, none⟩) (ys).length cc) (ys).length ((ys).map (Value.int .i64)) rfl (ho3.alloc _) ⟨w1.heap.size, 0, none⟩ 1 1 [.int .i64 x] rfl rfl (World.news_of_block (cs := #[.int .i64 x]) (t := 2) (fr := (0, 0)) (heap_alloc_new w1 _)) (by simp [Value.oneCell']) (by omega) (by unfold maxLen; omega) (by omega) (by simp; omega) (w1.heap.size + 1) (by simp) ?_; intro g3 c3 w3 hown1 hgrow hat hlt1)
          have hw4 : Below w.heap.size w w3 := (hw2.alloc hsz2 (.cells #[.int .i64 x] 2)).grown hgrow (by simp; omega) (by intro q hq; simp [Value.ownBlock] at hq; omega)
          have ho4 := own_appended hown1
          clear hgrow hown1 hat hgl
          go_wp2_with fail
          go_roundw
          case rel => exact ⟨k + 1, g3, c3, ys ++ [x], true, by omega, by go_num, rfl, by simp, by simp; omega, HX2, ho4, hw4⟩
          case measure => simp [intOf]; omega
    · have hki : ¬ (k : Int) < (l.length : Int) := by omega
      have hdn : l.drop k = [] := List.drop_eq_nil_of_le (by omega)
      cases dn with
      | true =>
        have HX2 : Hid (putL l n = xs) := by show _ = _; rw [HX.out, hdn]; simp [putR]
        clear HX hdn
        go_wp2_with fail
        go_ret
        exact ⟨g, cap, ret_slice (by rw [HX2.out]), by rw [HX2.out]; exact ho, hw⟩
      | false =>
        have HX2 : Hid (putL l n = xs ++ [n]) := by show _ = _; rw [HX.out, hdn]; simp [putR, putL]
        clear HX hdn
        have hgl := ho.base
        go_wp2_with (at_builtin; refine wpList_append_lies _ rfl _ _ _ rfl w.heap.size 2 i0 _ 1 8 Try.underlying23 hi hz0 hz1 hz2 rfl (by omega) (.slice (some ⟨g, 0, none⟩) (xs).length cap) (xs).length ((xs).map (Value.int .i64)) rfl (ho.alloc _) ⟨wr.heap.size, 0, none⟩ 1 1 [.int .i64 n] rfl rfl (World.news_of_block (cs := #[.int .i64 n]) (t := 2) (fr := (0, 0)) (heap_alloc_new wr _)) (by simp [Value.oneCell']) (by omega) (by unfold maxLen; omega) (by omega) (by simp; omega) (wr.heap.size + 1) (by simp) ?_; intro gg cc w1 hown1 hgrow hat hlt1)
        have hw2 : Below w.heap.size w w1 := (hw.alloc hsz (.cells #[.int .i64 n] 2)).grown hgrow (by simp; omega) (by intro q hq; simp [Value.ownBlock] at hq; omega)
        have ho3 := own_appended hown1
        clear hgrow hown1 hat hgl
        go_wp2_with fail
        go_ret
        exact ⟨gg, cc, ret_slice (by rw [HX2.out]; simp), by rw [HX2.out]; exact ho3, hw2⟩

end Go.Proofs.Ytiimebiecihpkaa
