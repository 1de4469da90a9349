/- Determinants, by both. -/
import Derived.Test.YtiimebiecihpkaaMxl
import Derived.Test.YtiimebiecihpkaaMxg
namespace Go.Proofs.Ytiimebiecihpkaa
open Go.RowKit
set_option linter.unusedVariables false

def dtC (ls : List (List Int)) : Int := if sqB ls = true then 0 else 1
def dtR (ls : List (List Int)) : Int := if sqB ls = true then detM ls.length 0 ls 1 else 0
theorem dt_no {ls : List (List Int)} (h : sqB ls = false) : dtR ls = 0 ∧ dtC ls = 1 := by unfold dtR dtC; rw [if_neg (by rw [h]; simp), if_neg (by rw [h]; simp)]; exact ⟨rfl, rfl⟩
theorem dt_yes {ls : List (List Int)} (h : sqB ls = true) : dtR ls = detM ls.length 0 ls 1 ∧ dtC ls = 0 := by unfold dtR dtC; rw [if_pos h, if_pos h]; exact ⟨rfl, rfl⟩

set_option maxRecDepth 100000 in
set_option maxHeartbeats 1600000 in
theorem sDeterminantOf (a : Option Addr) (cap : Nat) (ls : List (List Int)) (w : World) (h : Mat w a ls) (hs : mSz ls ≤ 1048576) :
    Calls Try.prog 68 #[.slice a ls.length cap] w fun e w' => e = .returned (.tuple #[.int .i64 (dtR ls), .int .i64 (dtC ls)]) ∧ Below w.heap.size w w' := by
  have HQ := Lib.hid (sSquare a cap ls w h hs)
  cases hq : sqB ls with
  | false =>
    have HD := Lib.hid (dt_no hq)
    rw [hq] at HQ
    clear hq h
    go_enter Try.func68, Try.ntmps68
    go_wp2_with fail
    refine HQ.out.mono ?_; rintro e w1 ⟨rfl, rfl⟩
    go_wp2_with fail
    go_ret2
    exact ⟨ret_two HD.out.1.symm HD.out.2.symm, Below.refl _ _⟩
  | true =>
    have HD := Lib.hid (dt_yes hq)
    have HT := Lib.hid (sDet a cap ls.length ls w h (sq_of hq))
    rw [hq] at HQ
    clear hq h
    go_enter Try.func68, Try.ntmps68
    go_wp2_with fail
    refine HQ.out.mono ?_; rintro e w1 ⟨rfl, rfl⟩
    go_wp2_with fail
    refine HT.out.mono ?_; rintro e w2 ⟨rfl, hb⟩
    go_wp2_with fail
    go_ret2
    exact ⟨ret_two HD.out.1.symm HD.out.2.symm, hb⟩

theorem getD_rep0 {n i : Nat} : (List.replicate n ([] : List Int)).getD i [] = [] := by
  rw [List.getD_eq_getElem?_getD, List.getElem?_replicate]; split <;> rfl
set_option maxRecDepth 100000 in
set_option maxHeartbeats 3200000 in
theorem iDeterminantOf (a : Option Addr) (cap : Nat) (ls : List (List Int)) (w : World) (h : Mat w a ls) (hs : mSz ls ≤ 1048576) :
    Calls Try.prog 67 #[.slice a ls.length cap] w fun e w' => e = .returned (.tuple #[.int .i64 (dtR ls), .int .i64 (dtC ls)]) ∧ Below w.heap.size w w' := by
  obtain ⟨i1, hj, hy0, hy1, hy2⟩ := info_parts infoRow
  have HQ := Lib.hid (iSquare a cap ls w h hs)
  cases hq : sqB ls with
  | false =>
    have HD := Lib.hid (dt_no hq)
    rw [hq] at HQ
    clear hq h
    go_enter Try.func67, Try.ntmps67
    go_wp2_with fail
    refine HQ.out.mono ?_; rintro e w1 ⟨rfl, rfl⟩
    go_wp2_with fail
    go_ret2
    exact ⟨ret_two HD.out.1.symm HD.out.2.symm, Below.refl _ _⟩
  | true =>
    have HD := Lib.hid (dt_yes hq)
    have hsq := sq_of hq
    have HSQ := Lib.hid hsq
    have hn6 := hsq.n6
    have HA := Lib.hid h
    rw [hq] at HQ
    obtain ⟨n, hn⟩ : ∃ n, n = ls.length := ⟨_, rfl⟩
    rw [← hn] at HQ HD HSQ hn6 ⊢
    have HN := Lib.hid hn
    clear hq h hsq hn
    go_enter Try.func67, Try.ntmps67
    go_wp2_with fail
    refine HQ.out.mono ?_; rintro e w1 ⟨rfl, rfl⟩
    go_wp2_with (refine wpList_make_full _ rfl _ _ 22 rfl w.heap.size 23 i1 (.slice none 0 0) 1 Try.underlying22 hj hy0 hy1 .i64 .i64 _ _ n rfl rfl rfl rfl ?c2 ?c3 (Nat.le_refl _) ?_)
    case c2 => rw [hy2]; omega
    case c3 => unfold maxLen; omega
    intro w1 ho1 hg1
    have hb1 := (Below.refl w.heap.size w).grown hg1 (Nat.le_refl _) (by intro k hk; cases hk)
    have hgs := (World.ownsRow.lt ho1 w.heap.size (by simp [Value.ownBlock])).2
    have hcell : ∀ i, i < n → w1.cell? ⟨w.heap.size, i, none⟩ = some (.slice none 0 0) := fun i hi => by
      rw [ho1.cellAt i (by omega), toList_madeCells_one, List.getElem?_replicate, if_pos hi]
    have hmb : Mat w1 (some ⟨w.heap.size, 0, none⟩) (List.replicate n []) := .inr ⟨w.heap.size, 0, rfl, hgs, fun i hi => ⟨none, 0, by rw [Nat.zero_add, getD_rep0]; exact hcell i (by simpa using hi), .inl getD_rep0⟩⟩
    have HNM := Lib.hid (iNewMatrix a cap (some ⟨w.heap.size, 0, none⟩) n n ls (List.replicate n []) w1 (HA.out.below hb1 (Nat.le_refl _)) hmb HN.out.symm (by simp) hn6 (fun i hi => by rw [getD_rep0, HSQ.out.row i hi]; simp; omega)
      (fun W p q ai ci hb he i hi hc hnone => by
        cases he
        rw [Nat.zero_add, getD_rep0] at hc
        have e := (hb.cell (p := ⟨w.heap.size, i, none⟩) hgs).trans (hcell i hi)
        rw [hc] at e
        simp at e
        exact ⟨getD_rep0, e.2⟩))
    clear ho1 hg1 hmb hcell hj hy0 hy1 hy2
    go_wp2_with fail
    refine HNM.out.mono ?_; rintro e w2 ⟨g, rfl, ⟨R, K, hm⟩, hb2⟩
    have hw2 := hb1.trans (hb2.mono hb1.size)
    have hce : ∀ i, i < n → (cat2 n ls (List.replicate n [])).getD i [] = ls.getD i [] := fun i hi => by rw [cat2_at hi, getD_rep0, List.append_nil]
    have HRD := Lib.hid (iReduce w1.heap.size g n n (cat2 n ls (List.replicate n [])) R K w2 hm ⟨hn6, by omega, cat2_len _ _ _, fun i hi => by rw [hce i hi]; exact HSQ.out.row i hi, fun i hi => by rw [hce i hi]; exact HSQ.out.nums i hi⟩)
    have HEQ : Hid (detP n 0 (cat2 n ls (List.replicate n [])) 1 = detM n 0 ls 1) := by
      show _ = _
      refine (det_eq (n := n) n 0 ls _ 1 (by omega) ⟨HN.out.symm, cat2_len _ _ _, fun i hi => by rw [HSQ.out.row i hi]; exact Nat.le_refl _, fun i hi => by rw [hce i hi, HSQ.out.row i hi]; exact Nat.le_refl _, fun i j _ hi _ => by rw [hce i hi]⟩).symm
    rw [HEQ.out] at HRD
    have hz1 := hb1.size
    clear HNM hb1 hm hce HEQ
    go_wp2_with fail
    refine HRD.out.mono ?_; rintro e w3 ⟨rfl, _, hb3, _⟩
    have hw3 := hw2.trans (hb3.mono hz1)
    go_wp2_with fail
    go_ret2
    exact ⟨ret_two HD.out.1.symm HD.out.2.symm, hw3⟩

end Go.Proofs.Ytiimebiecihpkaa
