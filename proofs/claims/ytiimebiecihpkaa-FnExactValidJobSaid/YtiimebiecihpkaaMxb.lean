/- Lists of lists in memory of one's own; the law's copies and comparisons. -/
import Derived.Test.YtiimebiecihpkaaMxa
import Derived.Test.YtiimebiecihpkaaCkr
import Derived.Test.YtiimebiecihpkaaQt
import Derived.Deep.AppendLies
import Derived.Deep.RegionWith
import Derived.RegionTactic
namespace Go.Proofs.Ytiimebiecihpkaa
open Go.RowKit
set_option linter.unusedVariables false

/-- the first k of n rows, each in a block of its own -/
structure Mo (W : World) (L g kg n k : Nat) (ls : List (List Int)) (R K : Nat → Nat) : Prop where
  top : ∃ vs, W.ownsRow L 23 1 (.slice (some ⟨g, 0, none⟩) n kg) n vs ∧ ∀ i, i < k → vs[i]? = some (.slice (some ⟨R i, 0, none⟩) (ls.getD i []).length (K i))
  row : ∀ i, i < k → Own L W (R i) (K i) (ls.getD i [])
  ne : ∀ i, i < k → R i ≠ g
  inj : ∀ i j, i < k → j < k → R i = R j → i = j
theorem Mo.base {W : World} {L g kg n k : Nat} {ls : List (List Int)} {R K : Nat → Nat} (h : Mo W L g kg n k ls R K) : L ≤ g ∧ g < W.heap.size := by obtain ⟨vs, h1, _⟩ := h.top; exact h1.lt g rfl
theorem Mo.next {W W' : World} {L g kg n k : Nat} {ls : List (List Int)} {R K : Nat → Nat} (h : Mo W L g kg n k ls R K) (hb : Below W.heap.size W W') : Mo W' L g kg n k ls R K := by
  obtain ⟨vs, h1, h2⟩ := h.top
  exact ⟨⟨vs, h1.kept (below_grownBy hb) (.inr (by simp [Value.ownBlock])), h2⟩, fun i hi => (h.row i hi).kept hb (h.row i hi).base.2, h.ne, h.inj⟩
theorem Mo.cell {W : World} {L g kg n k : Nat} {ls : List (List Int)} {R K : Nat → Nat} (h : Mo W L g kg n k ls R K) (hkn : k ≤ n) (i : Nat) (hi : i < k) : W.cell? ⟨g, i, none⟩ = some (.slice (some ⟨R i, 0, none⟩) (ls.getD i []).length (K i)) := by
  obtain ⟨vs, h1, h2⟩ := h.top
  rw [h1.cellAt i (by omega)]; exact h2 i hi
theorem Mo.frz {W : World} {L g kg n k : Nat} {ls : List (List Int)} {R K : Nat → Nat} (h : Mo W L g kg n k ls R K) (i : Nat) : W.frozen? ⟨g, i, none⟩ = false := by obtain ⟨vs, h1, _⟩ := h.top; exact h1.frozenAt i
theorem Mo.has {W : World} {L g kg n k : Nat} {ls : List (List Int)} {R K : Nat → Nat} (h : Mo W L g kg n k ls R K) (i : Nat) (hi : i < n) : ∃ v, W.cell? ⟨g, i, none⟩ = some v := by
  obtain ⟨vs, h1, _⟩ := h.top
  have hl : vs.length = n * 1 := h1.1
  exact ⟨vs[i]'(by omega), by rw [h1.cellAt i (by omega), List.getElem?_eq_getElem]⟩
theorem Mo.mono {W : World} {L L' g kg n k : Nat} {ls : List (List Int)} {R K : Nat → Nat} (h : Mo W L g kg n k ls R K) (hL : L' ≤ L) : Mo W L' g kg n k ls R K := by
  obtain ⟨vs, ⟨h0, h1⟩, h2⟩ := h.top
  refine ⟨⟨vs, ⟨h0, ?_⟩, h2⟩, fun i hi => (h.row i hi).mono hL, h.ne, h.inj⟩
  rcases h1 with h1 | ⟨g', c', cur, e, hb, r⟩
  · exact .inl h1
  · exact .inr ⟨g', c', cur, e, Nat.le_trans hL hb, r⟩
/-- as one reads it -/
theorem Mo.mat {W : World} {L g kg n : Nat} {ls : List (List Int)} {R K : Nat → Nat} (h : Mo W L g kg n n ls R K) (hn : ls.length = n) : Mat W (some ⟨g, 0, none⟩) ls :=
  .inr ⟨g, 0, rfl, h.base.2, fun i hi => ⟨some ⟨R i, 0, none⟩, K i, by rw [Nat.zero_add]; exact h.cell (Nat.le_refl _) i (by omega), (h.row i (by omega)).at⟩⟩
/-- a row is written into the list -/
theorem Mo.put {W : World} {L g kg n k r c : Nat} {ls : List (List Int)} {R K : Nat → Nat} {x : List Int} (h : Mo W L g kg n k ls R K) (hk : k < n) (hr : Own L W r c x) (hrg : r ≠ g) (hrn : ∀ i, i < k → R i ≠ r) (hx : x = ls.getD k []) :
    Mo (W.setCell ⟨g, k, none⟩ (.slice (some ⟨r, 0, none⟩) x.length c)) L g kg n (k + 1) ls (fun i => if i = k then r else R i) (fun i => if i = k then c else K i) := by
  obtain ⟨vs, h1, h2⟩ := h.top
  have h1' := World.ownsRow.stored h1 k (.slice (some ⟨r, 0, none⟩) x.length c)
  have hl : vs.length = n * 1 := h1.1
  refine ⟨⟨_, h1'.1, fun i hi => ?_⟩, fun i hi => ?_, fun i hi => ?_, fun i j hi hj => ?_⟩
  · by_cases e : i = k
    · subst e; rw [List.getElem?_set_self (by omega)]; simp [hx]
    · rw [List.getElem?_set_ne (fun e2 => e e2.symm), h2 i (by omega)]; simp [e]
  · by_cases e : i = k
    · subst e; simp only [if_true]; rw [← hx]; exact hr.setOther (fun e => hrg e.symm) _
    · simp only [e, if_false]; exact (h.row i (by omega)).setOther (fun e2 => h.ne i (by omega) e2.symm) _
  · by_cases e : i = k
    · simp only [e, if_true]; exact hrg
    · simp only [e, if_false]; exact h.ne i (by omega)
  · by_cases e1 : i = k
    · by_cases e2 : j = k
      · intro _; rw [e1, e2]
      · simp only [e1, e2, if_true, if_false]; intro e; exact absurd e.symm (hrn j (by omega))
    · by_cases e2 : j = k
      · simp only [e1, e2, if_true, if_false]; intro e; exact absurd e (hrn i (by omega))
      · simp only [e1, e2, if_false]; exact h.inj i j (by omega) (by omega)
/-- a number of a row is written -/
theorem getD_set_row {ls : List (List Int)} {i q : Nat} {r : List Int} (hi : i < ls.length) : (ls.set i r).getD q [] = if q = i then r else ls.getD q [] := by
  rw [List.getD_eq_getElem?_getD, List.getElem?_set, List.getD_eq_getElem?_getD]
  by_cases e : i = q
  · subst e; simp [hi]
  · simp [e]; intro e2; exact absurd e2.symm e
theorem Mo.set {W : World} {L g kg n k : Nat} {ls : List (List Int)} {R K : Nat → Nat} (h : Mo W L g kg n k ls R K) (i j : Nat) (x : Int) (hi : i < k) (hl : i < ls.length) :
    Mo (W.setCell ⟨R i, j, none⟩ (.int .i64 x)) L g kg n k (ls.set i ((ls.getD i []).set j x)) R K := by
  obtain ⟨vs, h1, h2⟩ := h.top
  refine ⟨⟨vs, h1.kept (grownBy_set W (R i) j _) (.inr (by simp [Value.ownBlock]; exact fun e => h.ne i hi e.symm)), fun q hq => ?_⟩, fun q hq => ?_, h.ne, h.inj⟩
  · rw [getD_set_row hl, h2 q hq]
    by_cases e : q = i
    · subst e; simp
    · simp [e]
  · rw [getD_set_row hl]
    by_cases e : q = i
    · subst e; rw [if_pos rfl]; exact (h.row q hq).set j x
    · rw [if_neg e]; exact (h.row q hq).setOther (fun e2 => e (h.inj q i hq hi e2.symm)) _
/-- two rows change their places -/
theorem Mo.swap {W : World} {L g kg n : Nat} {ls : List (List Int)} {R K : Nat → Nat} (h : Mo W L g kg n n ls R K) (hn : ls.length = n) (i j : Nat) (hi : i < n) (hj : j < n) (hij : i ≠ j) :
    Mo ((W.setCell ⟨g, i, none⟩ (.slice (some ⟨R j, 0, none⟩) (ls.getD j []).length (K j))).setCell ⟨g, j, none⟩ (.slice (some ⟨R i, 0, none⟩) (ls.getD i []).length (K i))) L g kg n n ((ls.set i (ls.getD j [])).set j (ls.getD i [])) (fun q => if q = j then R i else if q = i then R j else R q) (fun q => if q = j then K i else if q = i then K j else K q) := by
  obtain ⟨vs, h1, h2⟩ := h.top
  have h1' := World.ownsRow.stored h1 i (.slice (some ⟨R j, 0, none⟩) (ls.getD j []).length (K j))
  have h1'' := World.ownsRow.stored h1'.1 j (.slice (some ⟨R i, 0, none⟩) (ls.getD i []).length (K i))
  have hl : vs.length = n * 1 := h1.1
  have hget : ∀ q, ((ls.set i (ls.getD j [])).set j (ls.getD i [])).getD q [] = if q = j then ls.getD i [] else if q = i then ls.getD j [] else ls.getD q [] := fun q => by
    rw [getD_set_row (by rw [List.length_set]; omega), getD_set_row (by omega)]
  have hrow : ∀ q, q < n → Own L ((W.setCell ⟨g, i, none⟩ (.slice (some ⟨R j, 0, none⟩) (ls.getD j []).length (K j))).setCell ⟨g, j, none⟩ (.slice (some ⟨R i, 0, none⟩) (ls.getD i []).length (K i))) (R q) (K q) (ls.getD q []) := fun q hq =>
    ((h.row q hq).setOther (fun e => h.ne q hq e.symm) _).setOther (fun e => h.ne q hq e.symm) _
  refine ⟨⟨_, h1''.1, fun q hq => ?_⟩, fun q hq => ?_, fun q hq => ?_, fun p q hp hq => ?_⟩
  · rw [hget]
    by_cases e1 : q = j
    · subst e1; rw [List.getElem?_set_self (by rw [List.length_set]; omega)]; simp
    · rw [List.getElem?_set_ne (fun e => e1 e.symm)]
      by_cases e2 : q = i
      · subst e2; rw [List.getElem?_set_self (by omega)]; simp [e1]
      · rw [List.getElem?_set_ne (fun e => e2 e.symm), h2 q hq]; simp [e1, e2]
  · rw [hget]
    by_cases e1 : q = j
    · simp only [e1, if_true]; exact hrow i hi
    · by_cases e2 : q = i
      · subst e2; simp only [e1, if_false, if_true]; exact hrow j hj
      · simp only [e1, e2, if_false]; exact hrow q hq
  · by_cases e1 : q = j
    · simp only [e1, if_true]; exact h.ne i hi
    · by_cases e2 : q = i
      · subst e2; simp only [e1, if_false, if_true]; exact h.ne j hj
      · simp only [e1, e2, if_false]; exact h.ne q hq
  · have key : ∀ q, q < n → ∃ q', q' < n ∧ (if q = j then R i else if q = i then R j else R q) = R q' ∧ q' = (if q = j then i else if q = i then j else q) := fun q hq => by
      by_cases e1 : q = j
      · exact ⟨i, hi, by simp [e1], by simp [e1]⟩
      · by_cases e2 : q = i
        · exact ⟨j, hj, by rw [if_neg e1, if_pos e2], by rw [if_neg e1, if_pos e2]⟩
        · exact ⟨q, hq, by simp [e1, e2], by simp [e1, e2]⟩
    obtain ⟨p', hp1, hp2, hp3⟩ := key p hp
    obtain ⟨q', hq1, hq2, hq3⟩ := key q hq
    intro e
    have e : (if p = j then R i else if p = i then R j else R p) = (if q = j then R i else if q = i then R j else R q) := e
    rw [hp2, hq2] at e
    have := h.inj p' q' hp1 hq1 e
    rw [hp3, hq3] at this
    revert this
    split
    · split
      · intro _; omega
      · split
        · intro _; omega
        · intro _; omega
    · split
      · split
        · intro _; omega
        · split
          · intro _; omega
          · intro _; omega
      · split
        · intro _; omega
        · split
          · intro _; omega
          · intro _; omega

set_option maxRecDepth 100000 in
set_option maxHeartbeats 3200000 in
theorem toMat (a : Option Addr) (cap : Nat) (ls : List (List Int)) (w : World) (h : Mat w a ls) (hs : mSz ls ≤ 1048576) :
    Calls Try.prog 17 #[.slice a ls.length cap] w fun e w' => ∃ g, e = .returned (.slice (some ⟨g, 0, none⟩) ls.length ls.length) ∧ (∃ R K, Mo w' w.heap.size g ls.length ls.length ls.length ls R K) ∧ Below w.heap.size w w' := by
  obtain ⟨i1, hj, hy0, hy1, hy2⟩ := info_parts infoRow
  have hll : ls.length ≤ 1048576 := by unfold mSz at hs; omega
  have HR := fun i => Lib.hid (mSz_row (i := i) hs)
  clear hs
  go_enter Try.func17, Try.ntmps17
  go_wp2_with (refine wpList_make_full _ rfl _ _ 22 rfl w.heap.size 23 i1 (.slice none 0 0) 1 Try.underlying22 hj hy0 hy1 .i64 .i64 _ _ ls.length rfl rfl rfl rfl ?c2 ?c3 (Nat.le_refl _) ?_)
  case c2 => rw [hy2]; omega
  case c3 => unfold maxLen; omega
  intro w1 ho1 hg1
  have hb1 := (Below.refl w.heap.size w).grown hg1 (Nat.le_refl _) (by intro k hk; cases hk)
  have HM0 : Hid (Mo w1 w.heap.size w.heap.size ls.length ls.length 0 ls (fun _ => 0) (fun _ => 0)) := ⟨⟨_, ho1, fun i h => absurd h (Nat.not_lt_zero _)⟩, fun i h => absurd h (Nat.not_lt_zero _), fun i h => absurd h (Nat.not_lt_zero _), fun i j h => absurd h (Nat.not_lt_zero _)⟩
  have HB1 := Lib.hid hb1
  clear ho1 hg1 hj hy0 hy1 hy2 hb1
  go_wp2_with fail
  go_loopw [4] (fun i wr => ∃ (k : Nat) (R K : Nat → Nat), k ≤ ls.length ∧ i = .int .i64 k ∧ Hid (Mo wr w.heap.size w.heap.size ls.length ls.length k ls R K) ∧ Hid (Below w.heap.size w wr)) (fun i _ => ls.length - (intOf i).toNat)
  case atStart => exact ⟨0, _, _, Nat.zero_le _, rfl, HM0.out, HB1.out⟩
  case round =>
    obtain ⟨k, R, K, hk, rfl, HM, HB⟩ := hrel
    clear HM0 HB1
    by_cases hlt : k < ls.length
    · have hii : (k : Int) < (ls.length : Int) := by omega
      obtain ⟨b, off, rfl, hbl, hall⟩ := (h.below HB.out (Nat.le_refl _)).resolve_left (by intro e; rw [e] at hlt; simp at hlt)
      obtain ⟨ai, ci, c0, hat⟩ := hall k hlt
      have HC := Lib.hid (toInt64S ai ci (ls.getD k []) wr hat (HR k).out)
      obtain ⟨v0, c1⟩ := HM.out.has k hlt
      have f1 := HM.out.frz k
      have HG := Lib.hid (show (ls.getD k []) = ls.getD k [] from rfl)
      have HMs := Lib.hid HM.out
      have hsz := HB.out.size
      clear hall hat HR
      generalize hx : ls.getD k [] = x at c0 HC
      have HX := Lib.hid hx
      clear hx
      go_wp2_with fail
      refine HC.out.mono ?_; rintro e w2 ⟨r, cr, rfl, ho, hb⟩
      have hM2 := HM.out.next hb
      have hb2 := HB.out.trans (hb.mono hsz)
      have c2 := (hb.cell (p := ⟨w.heap.size, k, none⟩) (cell_lt c1)).trans c1
      have f2 := (hb.frozen (p := ⟨w.heap.size, k, none⟩) (cell_lt c1)).trans f1
      have hob := ho.base
      have hgs := cell_lt c1
      have HN := Lib.hid (hM2.put hlt (ho.mono hsz) (by omega) (fun i hi => by have := (HM.out.row i hi).base; omega) HX.out.symm)
      have HBN := Lib.hid (hb2.setCell (p := ⟨w.heap.size, k, none⟩) (Nat.le_refl _) (.slice (some ⟨r, 0, none⟩) x.length cr))
      clear hM2 hb2 hb ho c1 f1 HM HMs HB
      go_wp2_with fail
      go_roundw
      case rel => exact ⟨k + 1, _, _, by omega, by go_num, HN.out, HBN.out⟩
      case measure => simp [intOf]; omega
    · have hii : ¬ (k : Int) < (ls.length : Int) := by omega
      obtain rfl : k = ls.length := by omega
      go_wp2_with fail
      go_ret
      exact ⟨_, rfl, ⟨R, K, HM.out⟩, HB.out⟩

set_option maxHeartbeats 800000 in
theorem eqInt64Q (a b : Option Addr) (ca cb : Nat) (l : List Int) (w : World) (ha : At w a l) (hb : At w b l) (hl : l.length ≤ 9223372036854775806) :
    Calls Try.prog 20 #[.slice a l.length ca, .slice b l.length cb] w (Qui (.bool true) w) := by
  go_enter Try.func20, Try.ntmps20
  go_wp2
  go_loopw [5] (fun i wr => ∃ k : Nat, k ≤ l.length ∧ i = .int .i64 k ∧ Hid (Drw w wr)) (fun i _ => l.length - (intOf i).toNat)
  case atStart => exact ⟨0, Nat.zero_le _, rfl, Drw.refl _⟩
  case round =>
    obtain ⟨k, hk, rfl, hw⟩ := hrel
    by_cases hlt : k < l.length
    · obtain ⟨b1, o1, rfl, hbl1, hc1⟩ := ((ha.drw hw.out).resolve_left (by intro e; rw [e] at hlt; simp at hlt))
      obtain ⟨b2, o2, rfl, hbl2, hc2⟩ := ((hb.drw hw.out).resolve_left (by intro e; rw [e] at hlt; simp at hlt))
      have h1 := hc1 k hlt
      have h2 := hc2 k hlt
      clear hc1 hc2 ha hb
      generalize l.getD k 0 = x at h1 h2
      have hi : (k : Int) < (l.length : Int) := by omega
      go_wp2
      go_quiet (fail)
      go_wp2
      go_roundw
      case rel => exact ⟨k + 1, by omega, by go_num, hw.out.more _⟩
      case measure => simp [intOf]; omega
    · go_wp2
      go_ret
      obtain ⟨m, hm⟩ := hw.out
      exact ⟨rfl, m, hm⟩
set_option maxRecDepth 100000 in
set_option maxHeartbeats 3200000 in
theorem eqMat (a b : Option Addr) (ca cb : Nat) (ls : List (List Int)) (w : World) (ha : Mat w a ls) (hb : Mat w b ls) (hs : mSz ls ≤ 1048576) :
    Calls Try.prog 21 #[.slice a ls.length ca, .slice b ls.length cb] w fun e w' => e = .returned (.bool true) ∧ Below w.heap.size w w' := by
  have hll : ls.length ≤ 1048576 := by unfold mSz at hs; omega
  have HR := fun i => Lib.hid (mSz_row (i := i) hs)
  clear hs
  go_enter Try.func21, Try.ntmps21
  go_wp2_with fail
  go_loopw [5] (fun i wr => ∃ k : Nat, k ≤ ls.length ∧ i = .int .i64 k ∧ Hid (Below w.heap.size w wr)) (fun i _ => ls.length - (intOf i).toNat)
  case atStart => exact ⟨0, Nat.zero_le _, rfl, Below.refl _ _⟩
  case round =>
    obtain ⟨k, hk, rfl, HB⟩ := hrel
    by_cases hlt : k < ls.length
    · have hii : (k : Int) < (ls.length : Int) := by omega
      obtain ⟨b1, o1, rfl, hbl1, hall1⟩ := (ha.below HB.out (Nat.le_refl _)).resolve_left (by intro e; rw [e] at hlt; simp at hlt)
      obtain ⟨b2, o2, rfl, hbl2, hall2⟩ := (hb.below HB.out (Nat.le_refl _)).resolve_left (by intro e; rw [e] at hlt; simp at hlt)
      obtain ⟨a1, c1, x1, y1⟩ := hall1 k hlt
      obtain ⟨a2, c2, x2, y2⟩ := hall2 k hlt
      have HC := fun j => Lib.hid (eqInt64Q a1 a2 c1 c2 (ls.getD k []) (wr.drewN j) (y1.drw ⟨j, rfl⟩) (y2.drw ⟨j, rfl⟩) (by have := (HR k).out; omega))
      clear hall1 hall2 y1 y2 ha hb HR
      generalize ls.getD k [] = x at *
      go_wp2_with fail
      go_quiet ((go_at_call 20; with_reducible exact qui_q (HC _).out))
      go_wp2_with fail
      go_roundw
      case rel => exact ⟨k + 1, by omega, by go_num, below_drewN HB.out _⟩
      case measure => simp [intOf]; omega
    · have hii : ¬ (k : Int) < (ls.length : Int) := by omega
      go_wp2_with fail
      go_ret
      exact ⟨rfl, HB.out⟩

end Go.Proofs.Ytiimebiecihpkaa
