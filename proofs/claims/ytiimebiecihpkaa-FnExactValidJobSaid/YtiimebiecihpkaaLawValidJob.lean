/- The law on valid jobs. -/
import Derived.Deep.RegionHeld3
import Derived.Test.YtiimebiecihpkaaVl
import Derived.Test.YtiimebiecihpkaaVm
namespace Go.Proofs.Ytiimebiecihpkaa
open Go.RowKit
set_option linter.unusedVariables false

set_option maxRecDepth 100000 in
set_option maxHeartbeats 6400000 in
theorem wFnExactValidJob (v0 : Value) (w : World) (h0 : IsJob w v0) :
    Calls Try.prog 11 #[v0] w fun e w' => e = .returned (.bool true) ∧ Below w.heap.size w w' := by
  obtain ⟨ap, capp, fs, fu, sh, apt, cpt, pt, att, ct, ls, rfl, ⟨hP, hPl⟩, _, ⟨hA, _, hAl⟩, hM, _, hMl, hMk⟩ := h0
  obtain ⟨w0, hw0⟩ : ∃ w0, w0 = w.alloc (.cells #[.slice ap fs.length capp, .int .i64 fu, .int .i64 sh, .slice apt pt.length cpt, .slice att ls.length ct] 68) := ⟨_, rfl⟩
  have HB : Below w.heap.size w w0 := by rw [hw0]; exact (Below.refl _ _).alloc (Nat.le_refl _) _
  have z0 : w0.heap.size = w.heap.size + 1 := by rw [hw0]; simp
  have J : Bk 5 w0 w.heap.size (fun j => match j with | 0 => .slice ap fs.length capp | 1 => .int .i64 fu | 2 => .int .i64 sh | 3 => .slice apt pt.length cpt | _ => .slice att ls.length ct) := by
    refine ⟨fun i hi => ?_, fun o => by rw [hw0]; simp [go_sem]⟩
    match i, hi with
    | 0, _ => rw [hw0]; simp [go_sem]
    | 1, _ => rw [hw0]; simp [go_sem]
    | 2, _ => rw [hw0]; simp [go_sem]
    | 3, _ => rw [hw0]; simp [go_sem]
    | 4, _ => rw [hw0]; simp [go_sem]
  have HZ := Lib.hid (szJob fs fu sh pt ls ap capp apt cpt att ct 1048576 w0 ((hP.below HB).mono (Nat.le_refl _) HB.size) hPl hAl (hM.below HB (Nat.le_refl _)) hMl hMk (by omega) (by omega))
  have c0 : w0.cell? ⟨w.heap.size, 0, none⟩ = some (.slice ap fs.length capp) := J.cell 0 (by omega)
  have c1 : w0.cell? ⟨w.heap.size, 1, none⟩ = some (.int .i64 fu) := J.cell 1 (by omega)
  have c2 : w0.cell? ⟨w.heap.size, 2, none⟩ = some (.int .i64 sh) := J.cell 2 (by omega)
  have c3 : w0.cell? ⟨w.heap.size, 3, none⟩ = some (.slice apt pt.length cpt) := J.cell 3 (by omega)
  have c4 : w0.cell? ⟨w.heap.size, 4, none⟩ = some (.slice att ls.length ct) := J.cell 4 (by omega)
  by_cases hs : ((jSz fs pt ls : Nat) : Int) ≤ 1048576
  rotate_left
  · rw [szv_f hs] at HZ
    clear hP hA hM hs hMk
    go_enter Try.func11, Try.ntmps11
    go_wp2_with fail
    rw [← hw0]
    clear hw0
    refine HZ.out.mono ?_; rintro e w1 ⟨rfl, b⟩
    go_wp2_with fail
    go_ret
    exact ⟨rfl, HB.trans (b.mono HB.size)⟩
  rw [szv_t hs] at HZ
  have hs0 : jSz fs pt ls ≤ 1048576 := by omega
  have hs1 : pgSize fs ≤ 1048576 := by unfold jSz at hs0; omega
  have hs2 : pt.length ≤ 1048576 := by unfold jSz at hs0; omega
  have hs3 : mSz ls ≤ 1048576 := by unfold jSz at hs0; omega
  have hfl : fs.length ≤ 1048576 := by unfold pgSize at hs1; omega
  have hy : 0 ≤ 1048576 - ((jSz fs pt ls : Nat) : Int) := by omega
  have hd : decide (1048576 - ((jSz fs pt ls : Nat) : Int) < 0) = false := decide_eq_false (by omega)
  generalize 1048576 - ((jSz fs pt ls : Nat) : Int) = lv at HZ hy hd
  clear hs hMk hAl hMl
  go_enter Try.func11, Try.ntmps11
  go_wp2_with fail
  rw [← hw0]
  clear hw0
  refine HZ.out.mono ?_; rintro e v1 ⟨rfl, b⟩
  clear HZ
  have s1 := b.size
  replace HB := HB.trans (b.mono HB.size)
  replace J := J.next b (by omega)
  clear b c0 c1 c2 c3 c4
  have c0 : v1.cell? ⟨w.heap.size, 0, none⟩ = some (.slice ap fs.length capp) := J.cell 0 (by omega)
  have c1 : v1.cell? ⟨w.heap.size, 1, none⟩ = some (.int .i64 fu) := J.cell 1 (by omega)
  have c2 : v1.cell? ⟨w.heap.size, 2, none⟩ = some (.int .i64 sh) := J.cell 2 (by omega)
  have c3 : v1.cell? ⟨w.heap.size, 3, none⟩ = some (.slice apt pt.length cpt) := J.cell 3 (by omega)
  have c4 : v1.cell? ⟨w.heap.size, 4, none⟩ = some (.slice att ls.length ct) := J.cell 4 (by omega)
  go_wp2_with fail
  clear hy hd
  refine (toJob fs fu sh pt ls ap capp apt cpt att ct _ ((hP.below HB).mono (Nat.le_refl _) HB.size) (hA.below HB (Nat.le_refl _)) (hM.below HB (Nat.le_refl _)) hs0).mono ?_
  rintro e v2 ⟨g1, g2, g3, rfl, W2, P2, ⟨R2, K2, M2⟩, b⟩
  have s2 := b.size
  replace HB := HB.trans (b.mono HB.size)
  replace J := J.next b (by omega)
  clear b c0 c1 c2 c3 c4
  go_wp2_with fail
  refine (sValidJob fs fu sh pt ls _ _ _ _ _ _ _ (W2.pat.mono (Nat.zero_le _) (Nat.le_refl _)) hs1 P2.at hs2 (M2.mat rfl) hs3).mono ?_
  rintro e v3 ⟨rfl, b⟩
  have s3 := b.size
  replace HB := HB.trans (b.mono HB.size)
  replace J := J.next b (by omega)
  clear b W2 P2 M2
  have c0 : v3.cell? ⟨w.heap.size, 0, none⟩ = some (.slice ap fs.length capp) := J.cell 0 (by omega)
  have c1 : v3.cell? ⟨w.heap.size, 1, none⟩ = some (.int .i64 fu) := J.cell 1 (by omega)
  have c2 : v3.cell? ⟨w.heap.size, 2, none⟩ = some (.int .i64 sh) := J.cell 2 (by omega)
  have c3 : v3.cell? ⟨w.heap.size, 3, none⟩ = some (.slice apt pt.length cpt) := J.cell 3 (by omega)
  have c4 : v3.cell? ⟨w.heap.size, 4, none⟩ = some (.slice att ls.length ct) := J.cell 4 (by omega)
  go_wp2_with fail
  refine (toJob fs fu sh pt ls ap capp apt cpt att ct _ ((hP.below HB).mono (Nat.le_refl _) HB.size) (hA.below HB (Nat.le_refl _)) (hM.below HB (Nat.le_refl _)) hs0).mono ?_
  rintro e v4 ⟨x1, x2, x3, rfl, W4, P4, ⟨R4, K4, M4⟩, b⟩
  have s4 := b.size
  replace HB := HB.trans (b.mono HB.size)
  replace J := J.next b (by omega)
  clear b c0 c1 c2 c3 c4
  obtain ⟨v5, hv5⟩ : ∃ v5, v5 = v4.alloc (.cells #[.slice (some ⟨x1, 0, none⟩) fs.length fs.length, .int .i64 fu, .int .i64 sh, .slice (some ⟨x2, 0, none⟩) pt.length pt.length, .slice (some ⟨x3, 0, none⟩) ls.length ls.length] 72) := ⟨_, rfl⟩
  have b5 : Below v4.heap.size v4 v5 := by rw [hv5]; exact (Below.refl _ _).alloc (Nat.le_refl _) _
  have X : Bk 5 v5 v4.heap.size (fun j => match j with | 0 => .slice (some ⟨x1, 0, none⟩) fs.length fs.length | 1 => .int .i64 fu | 2 => .int .i64 sh | 3 => .slice (some ⟨x2, 0, none⟩) pt.length pt.length | _ => .slice (some ⟨x3, 0, none⟩) ls.length ls.length) := by
    refine ⟨fun i hi => ?_, fun o => by rw [hv5]; simp [go_sem]⟩
    match i, hi with
    | 0, _ => rw [hv5]; simp [go_sem]
    | 1, _ => rw [hv5]; simp [go_sem]
    | 2, _ => rw [hv5]; simp [go_sem]
    | 3, _ => rw [hv5]; simp [go_sem]
    | 4, _ => rw [hv5]; simp [go_sem]
  have s5 : v5.heap.size = v4.heap.size + 1 := by rw [hv5]; simp
  replace HB := HB.trans (b5.mono HB.size)
  replace J := J.next b5 (by omega)
  have HW : Hid (Pat v5 0 v5.heap.size fs (some ⟨x1, 0, none⟩)) := ((W4.pat.mono (Nat.zero_le _) (Nat.le_refl _)).below b5).mono (Nat.le_refl _) b5.size
  have HP := Lib.hid (P4.at.below b5 (Nat.le_refl _))
  have HM := Lib.hid ((M4.mat rfl).below b5 (Nat.le_refl _))
  clear b5 W4 P4 M4
  have lw : w.heap.size < v4.heap.size := by omega
  go_wp2_with fail
  rw [← hv5]
  clear hv5
  refine (iValidJob fs fu sh pt ls _ _ _ _ _ _ _ HW.out hs1 (Nat.le_refl _) hfl HP.out hs2 HM.out hs3).mono ?_
  rintro e v6 ⟨rfl, b⟩
  have s6 := b.size
  replace HB := HB.trans (b.mono HB.size)
  replace J := J.next b (by omega)
  replace X := X.next b (by omega)
  replace HW := Lib.hid ((HW.out.below b).mono (Nat.le_refl _) b.size)
  replace HP := Lib.hid (HP.out.below b (Nat.le_refl _))
  replace HM := Lib.hid (HM.out.below b (Nat.le_refl _))
  clear b
  have hne : (jobB fs fu sh pt ls != jobB fs fu sh pt ls) = false := by simp
  generalize jobB fs fu sh pt ls = pb at hne
  have c0 : v6.cell? ⟨w.heap.size, 0, none⟩ = some (.slice ap fs.length capp) := J.cell 0 (by omega)
  have c1 : v6.cell? ⟨w.heap.size, 1, none⟩ = some (.int .i64 fu) := J.cell 1 (by omega)
  have c2 : v6.cell? ⟨w.heap.size, 2, none⟩ = some (.int .i64 sh) := J.cell 2 (by omega)
  have c3 : v6.cell? ⟨w.heap.size, 3, none⟩ = some (.slice apt pt.length cpt) := J.cell 3 (by omega)
  have c4 : v6.cell? ⟨w.heap.size, 4, none⟩ = some (.slice att ls.length ct) := J.cell 4 (by omega)
  have x0 : v6.cell? ⟨v4.heap.size, 0, none⟩ = some (.slice (some ⟨x1, 0, none⟩) fs.length fs.length) := X.cell 0 (by omega)
  have y1 : v6.cell? ⟨v4.heap.size, 1, none⟩ = some (.int .i64 fu) := X.cell 1 (by omega)
  have y2 : v6.cell? ⟨v4.heap.size, 2, none⟩ = some (.int .i64 sh) := X.cell 2 (by omega)
  have y3 : v6.cell? ⟨v4.heap.size, 3, none⟩ = some (.slice (some ⟨x2, 0, none⟩) pt.length pt.length) := X.cell 3 (by omega)
  have y4 : v6.cell? ⟨v4.heap.size, 4, none⟩ = some (.slice (some ⟨x3, 0, none⟩) ls.length ls.length) := X.cell 4 (by omega)
  have HT := fun (W : World) (hW : Below v6.heap.size v6 W) => Lib.hid (toJob fs fu sh pt ls ap capp apt cpt att ct W (((hP.below HB).mono (Nat.le_refl _) HB.size).below hW |>.mono (Nat.le_refl _) hW.size) ((hA.below HB (Nat.le_refl _)).below hW (Nat.le_refl _)) ((hM.below HB (Nat.le_refl _)).below hW (Nat.le_refl _)) hs0)
  have l1 : w.heap.size < v6.heap.size := by omega
  have l2 : v4.heap.size < v6.heap.size := by omega
  clear hP hA hM J X
  go_wp2_with fail
  go_region_held3 (fun w' => w'.cell? ⟨w.heap.size, 0, none⟩ = some (.slice ap fs.length capp) ∧ w'.cell? ⟨w.heap.size, 1, none⟩ = some (.int .i64 fu) ∧ w'.cell? ⟨w.heap.size, 2, none⟩ = some (.int .i64 sh) ∧ w'.cell? ⟨w.heap.size, 3, none⟩ = some (.slice apt pt.length cpt) ∧ w'.cell? ⟨w.heap.size, 4, none⟩ = some (.slice att ls.length ct) ∧ w'.cell? ⟨v4.heap.size, 0, none⟩ = some (.slice (some ⟨x1, 0, none⟩) fs.length fs.length) ∧ w'.cell? ⟨v4.heap.size, 1, none⟩ = some (.int .i64 fu) ∧ w'.cell? ⟨v4.heap.size, 2, none⟩ = some (.int .i64 sh) ∧ w'.cell? ⟨v4.heap.size, 3, none⟩ = some (.slice (some ⟨x2, 0, none⟩) pt.length pt.length) ∧ w'.cell? ⟨v4.heap.size, 4, none⟩ = some (.slice (some ⟨x3, 0, none⟩) ls.length ls.length))
    (first
      | exact ⟨c0, c1, c2, c3, c4, x0, y1, y2, y3, y4⟩
      | exact ⟨(hb9.cell (p := ⟨w.heap.size, 0, none⟩) l1).trans c0, (hb9.cell (p := ⟨w.heap.size, 1, none⟩) l1).trans c1, (hb9.cell (p := ⟨w.heap.size, 2, none⟩) l1).trans c2, (hb9.cell (p := ⟨w.heap.size, 3, none⟩) l1).trans c3, (hb9.cell (p := ⟨w.heap.size, 4, none⟩) l1).trans c4, (hb9.cell (p := ⟨v4.heap.size, 0, none⟩) l2).trans x0, (hb9.cell (p := ⟨v4.heap.size, 1, none⟩) l2).trans y1, (hb9.cell (p := ⟨v4.heap.size, 2, none⟩) l2).trans y2, (hb9.cell (p := ⟨v4.heap.size, 3, none⟩) l2).trans y3, (hb9.cell (p := ⟨v4.heap.size, 4, none⟩) l2).trans y4⟩
      | exact ⟨(hb7.cell (p := ⟨w.heap.size, 0, none⟩) l1).trans c0, (hb7.cell (p := ⟨w.heap.size, 1, none⟩) l1).trans c1, (hb7.cell (p := ⟨w.heap.size, 2, none⟩) l1).trans c2, (hb7.cell (p := ⟨w.heap.size, 3, none⟩) l1).trans c3, (hb7.cell (p := ⟨w.heap.size, 4, none⟩) l1).trans c4, (hb7.cell (p := ⟨v4.heap.size, 0, none⟩) l2).trans x0, (hb7.cell (p := ⟨v4.heap.size, 1, none⟩) l2).trans y1, (hb7.cell (p := ⟨v4.heap.size, 2, none⟩) l2).trans y2, (hb7.cell (p := ⟨v4.heap.size, 3, none⟩) l2).trans y3, (hb7.cell (p := ⟨v4.heap.size, 4, none⟩) l2).trans y4⟩
      | go_keep)
    (first
      | (go_at_call 49; refine (HT _ (below_drew (Below.refl _ _))).out.mono ?_; rintro e w7 ⟨p1, p2, p3, rfl, W7, P7, ⟨R7, K7, M7⟩, hb7'⟩; have hb7 : Below v6.heap.size v6 w7 := ⟨hb7'.os, hb7'.tape, hb7'.output, hb7'.size, hb7'.block⟩)
      | (go_at_call 51; refine (eqJob fs fu sh pt ls _ _ _ _ _ _ _ _ _ _ _ _ _ ((HW.out.below hb7).mono (Nat.le_refl _) hb7.size) (W7.pat.mono (Nat.zero_le _) (Nat.le_refl _)) (by unfold maxLen; omega) (HP.out.below hb7 (Nat.le_refl _)) P7.at hs2 (HM.out.below hb7 (Nat.le_refl _)) (M7.mat rfl) hs3).mono ?_; rintro e w8 ⟨rfl, hb8⟩; have hb9 : Below v6.heap.size v6 w8 := hb7.trans (hb8.mono hb7.size)))
  all_goals go_wp2_with fail
  all_goals go_ret
  all_goals exact ⟨rfl, HB.trans (hb9.mono HB.size)⟩

end Go.Proofs.Ytiimebiecihpkaa
