/- Rows that are lengthened, exchanged, scaled: by the model. -/
import Derived.Test.YtiimebiecihpkaaMxq
import Derived.Test.YtiimebiecihpkaaMxg
import Derived.Deep.RegionLaw
namespace Go.Proofs.Ytiimebiecihpkaa
open Go.RowKit
set_option linter.unusedVariables false

def scm (l : List Int) (c : Int) : List Int := tab (fun i => tms (l.getD i 0) c) l.length
theorem scm_dv (l : List Int) (d : Int) : scm l (inv d) = dv l d := rfl
set_option maxRecDepth 100000 in
set_option maxHeartbeats 1600000 in
theorem sScaleM (n : Nat) (a : Option Addr) (ca : Nat) (l : List Int) (c : Int) (w : World) (ha : At w a l) (hL : Hid (l.length = n)) (hm : n ≤ 1048576) (hn : Nums l) (hc : 0 ≤ c ∧ c < 1000003) :
    Calls Try.prog 89 #[.slice a n ca, .int .i64 c] w fun e w' => ∃ g cap, e = .returned (.slice (some ⟨g, 0, none⟩) n cap) ∧ Own w.heap.size w' g cap (scm l c) ∧ Below w.heap.size w w' := by
  obtain ⟨i0, hi, hz0, hz1, hz2⟩ := info_parts info64
  have hB0 := (Below.refl w.heap.size w).alloc (Nat.le_refl _) (.cells #[] 2)
  have hO0 := own_none w w.heap.size (Nat.le_refl _)
  go_enter Try.func89, Try.ntmps89
  go_wp2
  go_loopw [5, 6] (fun v i wr => ∃ (k g cap : Nat) (xs : List Int), k ≤ n ∧ i = .int .i64 k ∧ v = .slice (some ⟨g, 0, none⟩) k cap ∧ xs.length = k ∧ Hid (xs = tab (fun i => tms (l.getD i 0) c) k) ∧ Own w.heap.size wr g cap xs ∧ Below w.heap.size w wr) (fun _ i _ => n - (intOf i).toNat)
  case atStart => exact ⟨0, w.heap.size, 0, [], Nat.zero_le _, rfl, rfl, rfl, rfl, hO0, hB0⟩
  case round =>
    obtain ⟨k, g, cap, xs, hk, rfl, rfl, hxl, hxs, ho, hw⟩ := hrel
    by_cases hlt : k < n
    · obtain ⟨b1, o1, rfl, hbl1, hc1⟩ := (ha.resolve_left (by intro e; have := hL.out; rw [e] at this; simp at this; omega))
      have h1 : wr.cell? ⟨b1, o1 + k, none⟩ = some (.int .i64 (l.getD k 0)) := (hw.cell (p := ⟨b1, o1 + k, none⟩) hbl1).trans (hc1 k (by rw [hL.out]; exact hlt))
      have r1 := hn.at k
      have hs2 : Hid (xs ++ [tms (l.getD k 0) c] = tab (fun i => tms (l.getD i 0) c) (k + 1)) := by rw [tab_succ, hxs.out]; rfl
      have hl2 : Hid ((xs ++ [tms (l.getD k 0) c]).length = k + 1) := by show _ = _; simp [hxl]
      have hi1 : (k : Int) < (n : Int) := by omega
      have ho2 : wr.ownsRow w.heap.size 2 1 (.slice (some ⟨g, 0, none⟩) k cap) k (xs.map (Value.int .i64)) := by rw [← hxl]; exact ho
      have hsz := hw.size
      have hgl := ho.base
      have HXL := Lib.hid hxl
      clear hc1 ha hxs hB0 hO0 ho hxl
      generalize l.getD k 0 = x at h1 r1 hs2 hl2
      go_wp2_with fail
      refine (sTimes x c (by omega) (by omega) _).mono ?_; rintro e w' ⟨rfl, rfl⟩
      generalize tms x c = y at hs2 hl2
      go_wp2_with (at_builtin; refine wpList_append_lies _ rfl _ _ _ rfl w.heap.size 2 i0 _ 1 8 Try.underlying23 hi hz0 hz1 hz2 rfl (by omega) (.slice (some ⟨g, 0, none⟩) k cap) k (xs.map (Value.int .i64)) rfl (ho2.alloc _) ⟨wr.heap.size, 0, none⟩ 1 1 [.int .i64 y] rfl rfl (World.news_of_block (cs := #[.int .i64 y]) (t := 2) (fr := (0, 0)) (heap_alloc_new wr _)) (by simp [Value.oneCell']) (by omega) (by unfold maxLen; omega) (by omega) (by simp; omega) (wr.heap.size + 1) (by simp) ?_; intro gg cc w1 hown1 hgrow hat hlt1)
      have hw2 : Below w.heap.size w w1 := (hw.alloc hsz (.cells #[.int .i64 y] 2)).grown hgrow (by simp; omega) (by intro q hq; simp [Value.ownBlock] at hq; omega)
      have ho3 : Own w.heap.size w1 gg cc (xs ++ [y]) := own_appended (by rw [HXL.out]; exact hown1)
      clear hgrow hown1 ho2
      go_roundw
      case rel => exact ⟨k + 1, gg, cc, xs ++ [y], by omega, by go_num, rfl, hl2.out, hs2, ho3, hw2⟩
      case measure => simp [intOf]; omega
    · have hkk : k = n := by omega
      subst hkk
      have hfin : Hid (xs = scm l c) := by show _ = _; unfold scm; rw [hL.out]; exact hxs.out
      clear hxl
      go_wp2
      go_ret
      exact ⟨g, cap, rfl, by rw [← hfin.out]; exact ho, hw⟩


/-- a row is written anew, in another block or in its own -/
theorem Mo.rep {W W1 : World} {L g kg n i gg cc : Nat} {ls : List (List Int)} {R K : Nat → Nat} {r : List Int} (h : Mo W L g kg n n ls R K) (hl : ls.length = n) (hi : i < n) (k : Kp (fun b => b = R i) W W1) (ho : Own L W1 gg cc r) (hgg : gg = R i ∨ W.heap.size ≤ gg) :
    Mo (W1.setCell ⟨g, i, none⟩ (.slice (some ⟨gg, 0, none⟩) r.length cc)) L g kg n n (ls.set i r) (fun q => if q = i then gg else R q) (fun q => if q = i then cc else K q) := by
  obtain ⟨vs, h1, h2⟩ := h.top
  have hgb := h.base
  have gb : W.grownBy W1 (some (R i)) := ⟨k.os, k.tape, k.output, k.size, fun b hb hne => k.block b hb (fun e => hne (by rw [e]))⟩
  have h1k := h1.kept gb (.inr (by simp [Value.ownBlock]; exact fun e => h.ne i hi e.symm))
  have h1' := World.ownsRow.stored h1k i (.slice (some ⟨gg, 0, none⟩) r.length cc)
  have hvl : vs.length = n * 1 := h1.1
  have hggg : gg ≠ g := by rcases hgg with e | e; exact fun e2 => h.ne i hi (by omega); omega
  refine ⟨⟨_, h1'.1, fun q hq => ?_⟩, fun q hq => ?_, fun q hq => ?_, fun p q hp hq => ?_⟩
  · rw [getD_set_row (by omega)]
    by_cases e : q = i
    · subst e; rw [List.getElem?_set_self (by omega)]; simp
    · rw [List.getElem?_set_ne (fun e2 => e e2.symm), h2 q hq]; simp [e]
  · rw [getD_set_row (by omega)]
    by_cases e : q = i
    · subst e; simp only [if_true]; exact ho.setOther (fun e => hggg e.symm) _
    · simp only [e, if_false]; exact ((h.row q hq).keptBy gb (fun e2 => by simp only [Option.some.injEq] at e2; exact e (h.inj q i hq hi e2.symm))).setOther (fun e2 => h.ne q hq e2.symm) _
  · by_cases e : q = i
    · simp only [e, if_true]; exact hggg
    · simp only [e, if_false]; exact h.ne q hq
  · have hnew : ∀ q, q < n → q ≠ i → R q ≠ gg := fun q hq hqi e => by
      rcases hgg with e2 | e2
      · exact hqi (h.inj q i hq hi (e.trans e2))
      · have := (h.row q hq).base; omega
    by_cases e1 : p = i
    · by_cases e2 : q = i
      · intro _; rw [e1, e2]
      · simp only [e1, e2, if_true, if_false]; intro e; exact absurd e.symm (hnew q hq e2)
    · by_cases e2 : q = i
      · simp only [e1, e2, if_true, if_false]; intro e; exact absurd e (hnew p hp e1)
      · simp only [e1, e2, if_false]; exact h.inj p q hp hq
/-- row r becomes row c's block, and row c a new one -/
theorem Mo.exch {W W2 : World} {L g kg n c r gN cN : Nat} {ls : List (List Int)} {R K : Nat → Nat} {x : List Int} (h : Mo W L g kg n n ls R K) (hl : ls.length = n) (hc : c < n) (hr : r < n)
    (hb : Below (W.setCell ⟨g, r, none⟩ (.slice (some ⟨R c, 0, none⟩) (ls.getD c []).length (K c))).heap.size (W.setCell ⟨g, r, none⟩ (.slice (some ⟨R c, 0, none⟩) (ls.getD c []).length (K c))) W2) (ho : Own L W2 gN cN x) (hgN : W.heap.size ≤ gN) :
    Mo (W2.setCell ⟨g, c, none⟩ (.slice (some ⟨gN, 0, none⟩) x.length cN)) L g kg n n ((ls.set r (ls.getD c [])).set c x) (fun q => if q = c then gN else if q = r then R c else R q) (fun q => if q = c then cN else if q = r then K c else K q) := by
  obtain ⟨vs, h1, h2⟩ := h.top
  have hgb := h.base
  have h1' := World.ownsRow.stored h1 r (.slice (some ⟨R c, 0, none⟩) (ls.getD c []).length (K c))
  have h1k := h1'.1.kept (below_grownBy hb) (.inr (by simp [Value.ownBlock]))
  have h1'' := World.ownsRow.stored h1k c (.slice (some ⟨gN, 0, none⟩) x.length cN)
  have hvl : vs.length = n * 1 := h1.1
  have hsz : (W.setCell ⟨g, r, none⟩ (.slice (some ⟨R c, 0, none⟩) (ls.getD c []).length (K c))).heap.size = W.heap.size := by simp
  have hrow : ∀ q, q < n → Own L (W2.setCell ⟨g, c, none⟩ (.slice (some ⟨gN, 0, none⟩) x.length cN)) (R q) (K q) (ls.getD q []) := fun q hq =>
    (((h.row q hq).setOther (fun e => h.ne q hq e.symm) _).kept hb (by rw [hsz]; exact (h.row q hq).base.2)).setOther (fun e => h.ne q hq e.symm) _
  refine ⟨⟨_, h1''.1, fun q hq => ?_⟩, fun q hq => ?_, fun q hq => ?_, fun p q hp hq => ?_⟩
  · rw [getD_set_row (by rw [List.length_set]; omega), getD_set_row (by omega)]
    by_cases e : q = c
    · subst e; rw [List.getElem?_set_self (by rw [List.length_set]; omega)]; simp
    · rw [List.getElem?_set_ne (fun e2 => e e2.symm)]
      by_cases e2 : q = r
      · subst e2; rw [List.getElem?_set_self (by omega)]; simp [e]
      · rw [List.getElem?_set_ne (fun e3 => e2 e3.symm), h2 q hq]; simp [e, e2]
  · rw [getD_set_row (by rw [List.length_set]; omega), getD_set_row (by omega)]
    by_cases e : q = c
    · simp only [e, if_true]; exact ho.setOther (by show g ≠ gN; omega) _
    · by_cases e2 : q = r
      · simp only [e2, if_true]; rw [if_neg (fun e3 => e (by omega)), if_neg (fun e3 => e (by omega))]
        have := hrow c hc
        rw [if_neg (fun e3 => e (by omega))]; exact this
      · simp only [e, e2, if_false]; exact hrow q hq
  · by_cases e : q = c
    · simp only [e, if_true]; omega
    · by_cases e2 : q = r
      · simp only [e2, if_true]; split
        · omega
        · exact h.ne c hc
      · simp only [e, e2, if_false]; exact h.ne q hq
  · have hb2 : ∀ q, q < n → R q < W.heap.size := fun q hq => (h.row q hq).base.2
    have key : ∀ q, q < n → q ≠ c → ∃ q', q' < n ∧ (if q = r then R c else R q) = R q' ∧ q' = (if q = r then c else q) := fun q hq hqc => by
      by_cases e2 : q = r
      · exact ⟨c, hc, if_pos e2, (if_pos e2).symm⟩
      · exact ⟨q, hq, if_neg e2, (if_neg e2).symm⟩
    by_cases e1 : p = c
    · by_cases e2 : q = c
      · intro _; rw [e1, e2]
      · intro e
        have e : (if p = c then gN else if p = r then R c else R p) = (if q = c then gN else if q = r then R c else R q) := e
        rw [if_pos e1, if_neg e2] at e
        obtain ⟨q', k1, k2, _⟩ := key q hq e2
        have := hb2 q' k1; omega
    · by_cases e2 : q = c
      · intro e
        have e : (if p = c then gN else if p = r then R c else R p) = (if q = c then gN else if q = r then R c else R q) := e
        rw [if_neg e1, if_pos e2] at e
        obtain ⟨q', k1, k2, _⟩ := key p hp e1
        have := hb2 q' k1; omega
      · intro e
        have e : (if p = c then gN else if p = r then R c else R p) = (if q = c then gN else if q = r then R c else R q) := e
        rw [if_neg e1, if_neg e2] at e
        obtain ⟨p', k1, k2, k3⟩ := key p hp e1
        obtain ⟨q', j1, j2, j3⟩ := key q hq e2
        rw [k2, j2] at e
        have := h.inj p' q' k1 j1 e
        rw [k3, j3] at this
        revert this
        split
        · split
          · intro _; omega
          · intro _; omega
        · split
          · intro _; omega
          · intro _; omega
theorem exch_clP {ls : List (List Int)} {c r : Nat} (hc : c < ls.length) (hr : r < ls.length) : (ls.set r (ls.getD c [])).set c (dv (ls.getD r []) ((ls.getD r []).getD c 0)) = clP (swp ls c r) c 0 := by
  rw [clP, swp_at hc hr, if_pos rfl]
  unfold swp
  by_cases h : r = c
  · subst h; rw [if_pos rfl, List.set_set]
  · rw [if_neg h, List.set_set]
theorem coln_cut {X : List (List Int)} {n : Nat} : coln (cutF n X) 0 = coln X n := by
  unfold coln cutF
  rw [List.map_map]
  exact List.map_congr_left (fun r _ => by simp [List.getD_eq_getElem?_getD, List.getElem?_drop])

end Go.Proofs.Ytiimebiecihpkaa
