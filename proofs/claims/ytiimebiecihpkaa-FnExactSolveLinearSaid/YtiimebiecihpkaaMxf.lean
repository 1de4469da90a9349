/- The determinant by the model. -/
import Derived.Test.YtiimebiecihpkaaMxe
namespace Go.Proofs.Ytiimebiecihpkaa
open Go.RowKit
set_option linter.unusedVariables false

/-- a row more, at the end -/
theorem mo_push {W W1 : World} {L g gg cc n r c : Nat} {ls : List (List Int)} {R K : Nat → Nat} {vs : List Value} {x : List Int} (hrow : ∀ i, i < n → Own L W (R i) (K i) (ls.getD i [])) (hne : ∀ i, i < n → R i ≠ g) (hinj : ∀ i j, i < n → j < n → R i = R j → i = j) (hvl : vs.length = n) (hv : ∀ i, i < n → vs[i]? = some (.slice (some ⟨R i, 0, none⟩) (ls.getD i []).length (K i)))
    (hr : Own L W r c x) (hrg : r ≠ g) (hrn : ∀ i, i < n → R i ≠ r) (hx : x = ls.getD n [])
    (hown : W1.ownsRow L 23 1 (.slice (some ⟨gg, 0, none⟩) (n + 1) cc) (n + 1) (vs ++ [.slice (some ⟨r, 0, none⟩) x.length c])) (hg : W.grownBy W1 (some g)) (hgg : gg = g ∨ W.heap.size ≤ gg) :
    Mo W1 L gg cc (n + 1) (n + 1) ls (fun i => if i = n then r else R i) (fun i => if i = n then c else K i) := by
  have hrb := hr.base
  refine ⟨⟨_, hown, fun i hi => ?_⟩, fun i hi => ?_, fun i hi => ?_, fun i j hi hj => ?_⟩
  · by_cases e : i = n
    · subst e; rw [List.getElem?_append_right (by omega), hvl, Nat.sub_self]; simp [hx]
    · rw [List.getElem?_append_left (by omega), hv i (by omega)]; simp [e]
  · by_cases e : i = n
    · subst e; simp only [if_true]; rw [← hx]; exact hr.keptBy hg (by intro e; cases e; exact hrg rfl)
    · simp only [e, if_false]; exact (hrow i (by omega)).keptBy hg (by intro e2; cases e2; exact hne i (by omega) rfl)
  · by_cases e : i = n
    · simp only [e, if_true]; rcases hgg with e2 | e2 <;> omega
    · simp only [e, if_false]
      have := (hrow i (by omega)).base
      have := hne i (by omega)
      rcases hgg with e2 | e2 <;> omega
  · by_cases e1 : i = n
    · by_cases e2 : j = n
      · intro _; rw [e1, e2]
      · simp only [e1, e2, if_true, if_false]; intro e; exact absurd e.symm (hrn j (by omega))
    · by_cases e2 : j = n
      · simp only [e1, e2, if_true, if_false]; intro e; exact absurd e (hrn i (by omega))
      · simp only [e1, e2, if_false]; exact hinj i j (by omega) (by omega)

/-- what a square matrix of n rows is -/
structure Sq (n : Nat) (ls : List (List Int)) : Prop where
  n6 : n ≤ 6
  len : ls.length = n
  row : ∀ i, i < n → (ls.getD i []).length = n
  nums : ∀ i, i < n → Nums (ls.getD i [])
theorem sq_of {ls : List (List Int)} (h : sqB ls = true) : Sq ls.length ls := ⟨(sqB_t h).1, rfl, fun i hi => ((sqB_t h).2 i hi).1, fun i hi => ((sqB_t h).2 i hi).2⟩
theorem tk_nums {r q : List Int} {f : Int} : Nums (tk r q f) := tab_nms _ (fun _ => mns_bd _ _)

set_option maxRecDepth 100000 in
set_option maxHeartbeats 3200000 in
theorem sOwnMat (a : Option Addr) (cap n : Nat) (ls : List (List Int)) (w : World) (h : Mat w a ls) (hs : Sq n ls) :
    Calls Try.prog 154 #[.slice a n cap] w fun e w' => ∃ g kg, e = .returned (.slice (some ⟨g, 0, none⟩) n kg) ∧ (∃ R K, Mo w' w.heap.size g kg n n ls R K) ∧ Below w.heap.size w w' := by
  obtain ⟨i1, hj, hy0, hy1, hy2⟩ := info_parts infoRow
  have hn6 := hs.n6
  have HS := Lib.hid hs
  clear hs
  have HB0 := Lib.hid ((Below.refl w.heap.size w).alloc (Nat.le_refl _) (.cells #[] 23))
  have HM0 : Hid (Mo (w.alloc (.cells #[] 23)) w.heap.size w.heap.size 0 0 0 ls (fun _ => 0) (fun _ => 0)) := ⟨⟨[], World.ownsRow_made w #[] 0 (Nat.le_refl _) (by unfold maxLen; omega) rfl, fun i h => absurd h (Nat.not_lt_zero _)⟩, fun i h => absurd h (Nat.not_lt_zero _), fun i h => absurd h (Nat.not_lt_zero _), fun i j h => absurd h (Nat.not_lt_zero _)⟩
  go_enter Try.func154, Try.ntmps154
  go_wp2_with fail
  go_loopw [3, 4] (fun v i wr => ∃ (k g kg : Nat) (R K : Nat → Nat), k ≤ n ∧ v = .slice (some ⟨g, 0, none⟩) k kg ∧ i = .int .i64 k ∧ Hid (Mo wr w.heap.size g kg k k ls R K) ∧ Hid (Below w.heap.size w wr)) (fun _ i _ => n - (intOf i).toNat)
  case atStart => exact ⟨0, w.heap.size, 0, _, _, Nat.zero_le _, rfl, rfl, HM0.out, HB0.out⟩
  case round =>
    obtain ⟨k, g, kg, R, K, hk, rfl, rfl, HM, HB⟩ := hrel
    clear HM0 HB0
    by_cases hlt : k < n
    · have hii : (k : Int) < (n : Int) := by omega
      obtain ⟨b, off, rfl, hbl, hall⟩ := (h.below HB.out (Nat.le_refl _)).resolve_left (by intro e; have := HS.out.len; rw [e] at this; simp at this; omega)
      obtain ⟨ai, ci, c0, hat⟩ := hall k (by have := HS.out.len; omega)
      have hrl := HS.out.row k hlt
      have HX : Hid (ls.getD k [] = ls.getD k []) := rfl
      have HC := Lib.hid (sOwn ai ci (ls.getD k []) wr hat (by omega) (by omega))
      have hsz := HB.out.size
      have HMg := HM.out.base
      clear hall hat
      have HXX : ∃ x, x = ls.getD k [] := ⟨_, rfl⟩
      obtain ⟨x, hx⟩ := HXX
      rw [← hx] at c0 HC hrl
      rw [hrl] at c0 HC
      have HXE := Lib.hid hx
      clear hx HX
      go_wp2_with fail
      refine HC.out.mono ?_; rintro e w2 ⟨r, cr, rfl, ho, hb⟩
      have HM2 := Lib.hid (HM.out.next hb)
      have HB2 := Lib.hid (HB.out.trans (hb.mono hsz))
      have hob := ho.base
      have hzb := hb.size
      have HRN : Hid (∀ i, i < k → R i ≠ r) := fun i hi => by have := (HM.out.row i hi).base; omega
      have HO := Lib.hid (ho.mono hsz)
      obtain ⟨vs, hv1, hv2⟩ := HM2.out.top
      have hvl : vs.length = k := by have := hv1.1; omega
      have HV2 := Lib.hid hv2
      have HVL := Lib.hid hvl
      clear hv2 hvl ho hb HM HB
      rw [hrl]
      go_wp2_with (at_builtin; refine wpList_append_lies _ rfl _ _ _ rfl w.heap.size 23 i1 _ 1 24 Try.underlying22 hj hy0 hy1 hy2 rfl (by omega) (.slice (some ⟨g, 0, none⟩) k kg) k vs rfl (hv1.alloc _) ⟨w2.heap.size, 0, none⟩ 1 1 [.slice (some ⟨r, 0, none⟩) n cr] rfl rfl (World.news_of_block (cs := #[.slice (some ⟨r, 0, none⟩) n cr]) (t := 23) (fr := (0, 0)) (heap_alloc_new w2 _)) (by simp [Value.oneCell']) (by omega) (by unfold maxLen; omega) (by omega) (by simp; omega) (w2.heap.size + 1) (by simp) ?_; intro gg cc w4 hown4 hgrow hat hlt4)
      have hba : Below w2.heap.size w2 (w2.alloc (.cells #[.slice (some ⟨r, 0, none⟩) n cr] 23)) := (Below.refl _ _).alloc (Nat.le_refl _) _
      have hM3 := HM2.out.next hba
      have HN := Lib.hid (mo_push (ls := ls) hM3.row hM3.ne hM3.inj HVL.out HV2.out (HO.out.kept hba hob.2) (by omega) HRN.out HXE.out (by rw [hrl]; exact hown4) hgrow (gg_of hat (by simp)))
      have HBN := Lib.hid ((HB2.out.alloc HB2.out.size (.cells #[.slice (some ⟨r, 0, none⟩) n cr] 23)).grown hgrow (by simp; omega) (by intro q hq; simp [Value.ownBlock] at hq; omega))
      clear hown4 hgrow hat hM3 hv1
      go_roundw
      case rel => exact ⟨k + 1, gg, cc, _, _, by omega, rfl, by go_num, HN.out, HBN.out⟩
      case measure => simp [intOf]; omega
    · have hii : ¬ (k : Int) < (n : Int) := by omega
      obtain rfl : k = n := by omega
      go_wp2_with fail
      go_ret
      exact ⟨g, kg, rfl, ⟨R, K, HM.out⟩, HB.out⟩

end Go.Proofs.Ytiimebiecihpkaa
