/- A matrix made, by the program. -/
import Derived.Test.YtiimebiecihpkaaMxh
import Derived.Test.YtiimebiecihpkaaNfn
import Derived.Deep.RegionWith
namespace Go.Proofs.Ytiimebiecihpkaa
open Go.RowKit
set_option linter.unusedVariables false

/-- rows side by side -/
def cat2 (n : Nat) (ls ms : List (List Int)) : List (List Int) := (List.range n).map fun i => ls.getD i [] ++ ms.getD i []
theorem cat2_len (n : Nat) (ls ms : List (List Int)) : (cat2 n ls ms).length = n := by simp [cat2]
theorem cat2_at {n i : Nat} {ls ms : List (List Int)} (h : i < n) : (cat2 n ls ms).getD i [] = ls.getD i [] ++ ms.getD i [] := by simp [cat2, List.getD_eq_getElem?_getD, h]

/-- another block turns -/
theorem Mo.by {W W' : World} {L g kg n k g' : Nat} {ls : List (List Int)} {R K : Nat → Nat} (h : Mo W L g kg n k ls R K) (hg : W.grownBy W' (some g')) (hL : g' < L) : Mo W' L g kg n k ls R K := by
  obtain ⟨vs, h1, h2⟩ := h.top
  have hb := h.base
  exact ⟨⟨vs, h1.kept hg (.inr (by simp [Value.ownBlock]; omega)), h2⟩, fun i hi => (h.row i hi).keptBy hg (by have := (h.row i hi).base; intro e; cases e; omega), h.ne, h.inj⟩
set_option maxRecDepth 100000 in
set_option maxHeartbeats 6400000 in
theorem iNewMatrix (a : Option Addr) (ca : Nat) (b : Option Addr) (cb n : Nat) (ls ms : List (List Int)) (w : World) (ha : Mat w a ls) (hb : Mat w b ms) (h1 : ls.length = n) (h2 : ms.length = n) (hn : n ≤ 6) (hrow : ∀ i, i < n → 1 ≤ (ls.getD i []).length ∧ (ls.getD i []).length ≤ 6 ∧ (ms.getD i []).length ≤ 6)
    (hnil : ∀ (W : World) (p q : Nat) ai ci, Below w.heap.size w W → b = some ⟨p, q, none⟩ → ∀ i, i < n → W.cell? ⟨p, q + i, none⟩ = some (.slice ai (ms.getD i []).length ci) → ai = none → ms.getD i [] = [] ∧ ci = 0) :
    Calls Try.prog 149 #[ofN, .slice a n ca, .slice b n cb] w fun e w' => ∃ g, e = .returned (.agg #[.slice (some ⟨g, 0, none⟩) n n, ofN]) ∧ (∃ R K, Mo w' w.heap.size g n n n (cat2 n ls ms) R K) ∧ Below w.heap.size w w' := by
  obtain ⟨i1, hj, hy0, hy1, hy2⟩ := info_parts infoRow
  have HA := Lib.hid ha
  have HB := Lib.hid hb
  have HR := Lib.hid hrow
  have HN := Lib.hid hnil
  have HL1 := Lib.hid h1
  have HL2 := Lib.hid h2
  clear ha hb hrow hnil h1 h2
  go_enter Try.func149, Try.ntmps149
  go_wp2_with (refine wpList_make_full _ rfl _ _ 129 rfl (w.heap.size + 1) 23 i1 (.slice none 0 0) 1 Try.underlying129 hj hy0 hy1 .i64 .i64 _ _ n rfl rfl rfl rfl ?c2 ?c3 (by simp) ?_)
  case c2 => rw [hy2]; omega
  case c3 => unfold maxLen; omega
  intro w1 ho1 hg1
  have hb1 := ((Below.refl w.heap.size w).alloc (Nat.le_refl _) (.cells #[.slice none 0 0, .nilIface] 133)).grown hg1 (by simp) (by intro k hk; cases hk)
  have hg1' := hg1
  have g1b : ∀ k, k < w.heap.size + 1 → w1.heap[k]? = (w.alloc (.cells #[.slice none 0 0, .nilIface] 133)).heap[k]? := fun k hk => hg1.block k (by simp; exact hk) (by intro e; cases e)
  have rc0 : w1.cell? ⟨w.heap.size, 0, none⟩ = some (.slice none 0 0) := (World.cell?_of_block (a := ⟨w.heap.size, 0, none⟩) (g1b w.heap.size (by omega))).trans (by simp [go_sem])
  have rc1 : w1.cell? ⟨w.heap.size, 1, none⟩ = some .nilIface := (World.cell?_of_block (a := ⟨w.heap.size, 1, none⟩) (g1b w.heap.size (by omega))).trans (by simp [go_sem])
  have rf0 : w1.frozen? ⟨w.heap.size, 0, none⟩ = false := (World.frozen?_of_block (a := ⟨w.heap.size, 0, none⟩) (g1b w.heap.size (by omega))).trans (by simp [go_sem])
  have rf1 : w1.frozen? ⟨w.heap.size, 1, none⟩ = false := (World.frozen?_of_block (a := ⟨w.heap.size, 1, none⟩) (g1b w.heap.size (by omega))).trans (by simp [go_sem])
  have hg1s := (World.ownsRow.lt ho1 (w.heap.size + 1) (by simp [Value.ownBlock])).2
  go_wp2_with fail
  obtain ⟨w2, hw2⟩ : ∃ w2, w2 = w1.alloc (.cells #[.slice (some ⟨w.heap.size + 1, 0, none⟩) n n, ofN] 133) := ⟨_, rfl⟩
  have B12 : Below w1.heap.size w1 w2 := by rw [hw2]; exact (Below.refl _ _).alloc (Nat.le_refl _) _
  have z2 : w2.heap.size = w1.heap.size + 1 := by rw [hw2]; simp
  have m0 : w2.cell? ⟨w1.heap.size, 0, none⟩ = some (.slice (some ⟨w.heap.size + 1, 0, none⟩) n n) := by rw [hw2]; simp [go_sem]
  have m1 : w2.cell? ⟨w1.heap.size, 1, none⟩ = some ofN := by rw [hw2]; simp [go_sem]
  rw [← hw2]
  have HM0 : Hid (Mo w2 (w.heap.size + 1) (w.heap.size + 1) n n 0 (cat2 n ls ms) (fun _ => 0) (fun _ => 0)) := by
    have : Mo w1 (w.heap.size + 1) (w.heap.size + 1) n n 0 (cat2 n ls ms) (fun _ => 0) (fun _ => 0) := ⟨⟨_, by simpa using ho1, fun i h => absurd h (Nat.not_lt_zero _)⟩, fun i h => absurd h (Nat.not_lt_zero _), fun i h => absurd h (Nat.not_lt_zero _), fun i j h => absurd h (Nat.not_lt_zero _)⟩
    exact this.next B12
  have HBW := Lib.hid (hb1.trans (B12.mono hb1.size))
  have HRC := Lib.hid (And.intro ((B12.cell (p := ⟨w.heap.size, 0, none⟩) (show w.heap.size < w1.heap.size by omega)).trans rc0) (And.intro ((B12.cell (p := ⟨w.heap.size, 1, none⟩) (show w.heap.size < w1.heap.size by omega)).trans rc1) (And.intro ((B12.frozen (p := ⟨w.heap.size, 0, none⟩) (show w.heap.size < w1.heap.size by omega)).trans rf0) ((B12.frozen (p := ⟨w.heap.size, 1, none⟩) (show w.heap.size < w1.heap.size by omega)).trans rf1))))
  have HMC := Lib.hid (And.intro m0 m1)
  clear hw2 hg1 hg1' g1b rc0 rc1 rf0 rf1 ho1 hb1 B12 m0 m1
  have HK0 : Hid (Kp (fun j => j = w.heap.size + 1) w2 w2) := Kp.refl _ _
  go_loopw [16] (fun q wr => ∃ (k : Nat) (R K : Nat → Nat), k ≤ n ∧ q = .int .i64 k ∧ Hid (Mo wr (w.heap.size + 1) (w.heap.size + 1) n n k (cat2 n ls ms) R K) ∧ Hid (Kp (fun j => j = w.heap.size + 1) w2 wr)) (fun q _ => n - (intOf q).toNat)
  case atStart => exact ⟨0, _, _, Nat.zero_le _, rfl, HM0.out, HK0.out⟩
  case round =>
    obtain ⟨k, R, K, hk, rfl, HM, HK⟩ := hrel
    clear HM0 HK0
    have HBR := Lib.hid (HBW.out.trans (HK.out.below (L := w.heap.size) HBW.out.size (fun b e => by omega)))
    have hszr := HK.out.size
    by_cases hlt : k < n
    · have hii : (k : Int) < (n : Int) := by omega
      obtain ⟨b1, o1, rfl, hbl1, hall1⟩ := (HA.out.below HBR.out (Nat.le_refl _)).resolve_left (by intro e; have := HL1.out; rw [e] at this; simp at this; omega)
      obtain ⟨b2, o2, rfl, hbl2, hall2⟩ := (HB.out.below HBR.out (Nat.le_refl _)).resolve_left (by intro e; have := HL2.out; rw [e] at this; simp at this; omega)
      obtain ⟨a1, c1, x1, y1⟩ := hall1 k (by have := HL1.out; omega)
      obtain ⟨a2, c2, x2, y2⟩ := hall2 k (by have := HL2.out; omega)
      obtain ⟨r1, r2, r3⟩ := HR.out k hlt
      have hnn := HN.out wr b2 o2 a2 c2 HBR.out rfl k hlt x2
      have p0 := HK.out.cell HMC.out.1 (by omega)
      obtain ⟨v0, q0⟩ := HM.out.has k hlt
      have qf := HM.out.frz k
      have HCX : Hid (ls.getD k [] ++ ms.getD k [] = (cat2 n ls ms).getD k []) := by show _ = _; rw [cat2_at hlt]
      have hba : Below wr.heap.size wr (wr.alloc (.cells #[.slice a1 (ls.getD k []).length c1, .slice a2 (ms.getD k []).length c2] 23)).drew := ((Below.refl _ _).alloc (Nat.le_refl _) _).drew
      have HC := iConcat (ls.getD k []) (ms.getD k []) a1 c1 a2 c2 wr.heap.size 2 ((wr.alloc (.cells #[.slice a1 (ls.getD k []).length c1, .slice a2 (ms.getD k []).length c2] 23)).drew) (y1.below hba (Nat.le_refl _)) (y2.below hba (Nat.le_refl _)) hnn r1 (by omega) (by omega) (by simp [go_sem]) (by simp [go_sem])
      have HCC := Lib.hid HC
      have hgr := HM.out.base
      have hw1r : w1.heap.size < wr.heap.size := by omega
      clear hall1 hall2 y1 y2 hnn HC
      generalize ls.getD k [] = xs at *
      generalize ms.getD k [] = ys at *
      go_wp2_with fail
      go_region_with (go_at_call 203; refine HCC.out.mono ?_; rintro e w5 ⟨g5, k5, rfl, ho5, hb5⟩; have hbb := hba.trans (hb5.mono (by simp)); have p05 := (hbb.cell (p := ⟨w1.heap.size, 0, none⟩) hw1r).trans p0; have q05 := (hbb.cell (p := ⟨w.heap.size + 1, k, none⟩) hgr.2).trans q0; have qf5 := (hbb.frozen (p := ⟨w.heap.size + 1, k, none⟩) hgr.2).trans qf)
      all_goals
        have hob5 := ho5.base
        have hsz5 : wr.heap.size + 1 ≤ ((wr.alloc (.cells #[.slice a1 xs.length c1, .slice a2 ys.length c2] 23)).drew).heap.size := by simp
        have hM5 := (HM.out.next hbb).put hlt (ho5.mono (by omega)) (by omega) (fun i hi => by have := (HM.out.row i hi).base; omega) HCX.out
        rw [List.length_append] at hM5
        have HM5 := Lib.hid hM5
        have HK5 : Hid (Kp (fun j => j = w.heap.size + 1) w2 (w5.setCell ⟨w.heap.size + 1, k, none⟩ (.slice (some ⟨g5, 0, none⟩) (xs.length + ys.length) k5))) := (HK.out.trans (Kp.of_below hbb)).trans (Kp.set (S := fun j => j = w.heap.size + 1) (p := ⟨w.heap.size + 1, k, none⟩) rfl)
        clear hM5 hbb ho5 hb5 HCC HM HK
        go_wp2_with fail
        go_roundw
        case rel => exact ⟨k + 1, _, _, by omega, by go_num, HM5.out, HK5.out⟩
        case measure => simp [intOf]; omega
    · have hii : ¬ (k : Int) < (n : Int) := by omega
      obtain rfl : k = n := by omega
      have p0 := HK.out.cell HMC.out.1 (by omega)
      have p1 := HK.out.cell HMC.out.2 (by omega)
      have r0 := HK.out.cell HRC.out.1 (by omega)
      have r1 := HK.out.cell HRC.out.2.1 (by omega)
      have f0 := (HK.out.fz (b := w.heap.size) (o := 0) (by omega) (by omega)).trans HRC.out.2.2.1
      have f1 := (HK.out.fz (b := w.heap.size) (o := 1) (by omega) (by omega)).trans HRC.out.2.2.2
      have hgr := HM.out.base
      go_wp2_with fail
      have e1 : ∀ (W : World) (o : Nat) (v : Value), W.grownBy (W.setCell ⟨w.heap.size, o, none⟩ v) (some w.heap.size) := fun W o v => grownBy_set W w.heap.size o v
      have hMf := HM.out.by (grownBy_trans (e1 wr 0 (.slice (some ⟨w.heap.size + 1, 0, none⟩) k k)) (e1 _ 1 ofN)) (show w.heap.size < w.heap.size + 1 by omega)
      have hBf : Below w.heap.size w ((wr.setCell ⟨w.heap.size, 0, none⟩ (.slice (some ⟨w.heap.size + 1, 0, none⟩) k k)).setCell ⟨w.heap.size, 1, none⟩ ofN) := (HBR.out.setCell (p := ⟨w.heap.size, 0, none⟩) (Nat.le_refl _) _).setCell (p := ⟨w.heap.size, 1, none⟩) (Nat.le_refl _) _
      refine bodyPost_ret (v := .agg #[.slice (some ⟨w.heap.size + 1, 0, none⟩) k k, ofN]) (by simp [results, Try.results149, go_sem, r0, r1]) rfl ⟨w.heap.size + 1, rfl, ⟨R, K, hMf.mono (by omega)⟩, hBf⟩

end Go.Proofs.Ytiimebiecihpkaa
