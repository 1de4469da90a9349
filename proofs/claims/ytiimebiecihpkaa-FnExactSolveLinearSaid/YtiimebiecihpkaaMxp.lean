/- A linear system of numbers solved, by the program. -/
import Derived.Test.YtiimebiecihpkaaMxo
namespace Go.Proofs.Ytiimebiecihpkaa
open Go.RowKit
set_option linter.unusedVariables false

/-- lists of one number each -/
def sgl (l : List Int) : List (List Int) := l.map fun x => [x]
theorem sgl_len (l : List Int) : (sgl l).length = l.length := by simp [sgl]
theorem sgl_at {l : List Int} {i : Nat} (h : i < l.length) : (sgl l).getD i [] = [l.getD i 0] := by simp [sgl, List.getD_eq_getElem?_getD, h]
/-- the solution's answer -/
def slP (n : Nat) (ls : List (List Int)) (b : List Int) : List Int := if detP n 0 (cat2 n ls (sgl b)) 1 = 0 then [] else coln (cutF n (rowP n 0 (cat2 n ls (sgl b)))) 0
def slD (n : Nat) (ls : List (List Int)) (b : List Int) : Int := if detP n 0 (cat2 n ls (sgl b)) 1 = 0 then 6 else 0
theorem slP_0 {n : Nat} {ls : List (List Int)} {b : List Int} (h : detP n 0 (cat2 n ls (sgl b)) 1 = 0) : slP n ls b = [] ∧ slD n ls b = 6 := ⟨if_pos h, if_pos h⟩
theorem slP_1 {n : Nat} {ls : List (List Int)} {b : List Int} (h : ¬ detP n 0 (cat2 n ls (sgl b)) 1 = 0) : slP n ls b = coln (cutF n (rowP n 0 (cat2 n ls (sgl b)))) 0 ∧ slD n ls b = 0 := ⟨if_neg h, if_neg h⟩
/-- a list of numbers and a code -/
def Res2L (w : World) (l : List Int) (c : Int) (e : Ending) (w' : World) : Prop := ∃ g cap, e = .returned (.tuple #[.slice (some ⟨g, 0, none⟩) l.length cap, .int .i64 c]) ∧ Own w.heap.size w' g cap l ∧ Below w.heap.size w w'
theorem ret_slc {a : Option Addr} {n m cap : Nat} {c d : Int} (h : n = m) (h2 : c = d) : Ending.returned (.tuple #[.slice a n cap, .int .i64 c]) = .returned (.tuple #[.slice a m cap, .int .i64 d]) := by rw [h, h2]

set_option maxRecDepth 100000 in
set_option maxHeartbeats 6400000 in
theorem iSolution (a : Option Addr) (ca : Nat) (b : Option Addr) (cb n : Nat) (ls : List (List Int)) (l : List Int) (w : World) (ha : Mat w a ls) (hb : At w b l) (hs : Sq n ls) (hl : l.length = n) (hln : Nums l) (hcb : n ≤ cb) (hcb2 : cb ≤ 9223372036854775807) :
    Calls Try.prog 82 #[ofN, .slice a n ca, .slice b n cb] w (Res2L w (slP n ls l) (slD n ls l)) := by
  obtain ⟨i1, hj, hy0, hy1, hy2⟩ := info_parts infoRow
  have hn6 := hs.n6
  have HS := Lib.hid hs
  have HA := Lib.hid ha
  have HB := Lib.hid hb
  have HL := Lib.hid hl
  have HLN := Lib.hid hln
  clear ha hb hs hl hln
  go_enter Try.func82, Try.ntmps82
  go_wp2_with (refine wpList_make_full _ rfl _ _ 22 rfl w.heap.size 23 i1 (.slice none 0 0) 1 Try.underlying22 hj hy0 hy1 .i64 .i64 _ _ n rfl rfl rfl rfl ?c2 ?c3 (Nat.le_refl _) ?_)
  case c2 => rw [hy2]; omega
  case c3 => unfold maxLen; omega
  intro w1 ho1 hg1
  have HB1 := Lib.hid ((Below.refl w.heap.size w).grown hg1 (Nat.le_refl _) (by intro k hk; cases hk))
  have HT0 : Hid (∃ vs, w1.ownsRow w.heap.size 23 1 (.slice (some ⟨w.heap.size, 0, none⟩) n n) n vs ∧ ∀ i, i < 0 → ∃ bb bo, b = some ⟨bb, bo, none⟩ ∧ vs[i]? = some (.slice (some ⟨bb, bo + i, none⟩) 1 (cb - i))) := ⟨_, ho1, fun i h => absurd h (Nat.not_lt_zero _)⟩
  clear ho1 hg1 hj hy0 hy1 hy2
  go_wp2_with fail
  go_loopw [17] (fun q wr => ∃ k : Nat, k ≤ n ∧ q = .int .i64 k ∧ Hid (∃ vs, wr.ownsRow w.heap.size 23 1 (.slice (some ⟨w.heap.size, 0, none⟩) n n) n vs ∧ ∀ i, i < k → ∃ bb bo, b = some ⟨bb, bo, none⟩ ∧ vs[i]? = some (.slice (some ⟨bb, bo + i, none⟩) 1 (cb - i))) ∧ Hid (Below w.heap.size w wr)) (fun q _ => n - (intOf q).toNat)
  case atStart => exact ⟨0, Nat.zero_le _, rfl, HT0.out, HB1.out⟩
  case round =>
    obtain ⟨k, hk, rfl, HT, HBW⟩ := hrel
    clear HT0 HB1
    by_cases hlt : k < n
    · have hii : (k : Int) < (n : Int) := by omega
      have hlL := HL.out
      obtain ⟨bb, bo, rfl, hbl, _⟩ := HB.out.resolve_left (by intro e; rw [e] at hlL; simp at hlL; omega)
      obtain ⟨vs, t1, t2⟩ := HT.out
      have hvl : vs.length = n * 1 := t1.1
      have q0 : wr.cell? ⟨w.heap.size, k, none⟩ = some (vs[k]'(by omega)) := by rw [t1.cellAt k (by omega), List.getElem?_eq_getElem]
      have qf := t1.frozenAt k
      have hst := World.ownsRow.stored t1 k (.slice (some ⟨bb, bo + k, none⟩) 1 (cb - k))
      have HTN : Hid (∃ vs, (wr.setCell ⟨w.heap.size, k, none⟩ (.slice (some ⟨bb, bo + k, none⟩) 1 (cb - k))).ownsRow w.heap.size 23 1 (.slice (some ⟨w.heap.size, 0, none⟩) n n) n vs ∧ ∀ i, i < k + 1 → ∃ bb' bo', (some ⟨bb, bo, none⟩ : Option Addr) = some ⟨bb', bo', none⟩ ∧ vs[i]? = some (.slice (some ⟨bb', bo' + i, none⟩) 1 (cb - i))) := by
        refine ⟨_, hst.1, fun i hi => ⟨bb, bo, rfl, ?_⟩⟩
        by_cases e : i = k
        · subst e; rw [List.getElem?_set_self (by omega)]
        · rw [List.getElem?_set_ne (fun e2 => e e2.symm)]
          obtain ⟨bb', bo', e1, e2⟩ := t2 i (by omega)
          cases e1; exact e2
      have HBN := Lib.hid (HBW.out.setCell (p := ⟨w.heap.size, k, none⟩) (Nat.le_refl _) (.slice (some ⟨bb, bo + k, none⟩) 1 (cb - k)))
      generalize vs[k]'(by omega) = v0 at q0
      have hck : ¬ cb = k := by omega
      have h1 : (k : Int) + 1 ≤ (cb : Int) := by omega
      clear t1 t2 hst HT HBW hlL hvl
      go_wp2_with fail
      go_roundw
      case rel => exact ⟨k + 1, by omega, by go_num, HTN.out, HBN.out⟩
      case measure => simp [intOf]; omega
    · have hii : ¬ (k : Int) < (n : Int) := by omega
      obtain rfl : k = n := by omega
      obtain ⟨vs, t1, t2⟩ := HT.out
      have hgs := (World.ownsRow.lt t1 w.heap.size (by simp [Value.ownBlock])).2
      have hcell : ∀ i, i < k → ∃ bb bo, b = some ⟨bb, bo, none⟩ ∧ wr.cell? ⟨w.heap.size, i, none⟩ = some (.slice (some ⟨bb, bo + i, none⟩) 1 (cb - i)) := fun i hi => by
        obtain ⟨bb, bo, e1, e2⟩ := t2 i hi
        exact ⟨bb, bo, e1, by rw [t1.cellAt i (by omega)]; exact e2⟩
      have hmb : Mat wr (some ⟨w.heap.size, 0, none⟩) (sgl l) := .inr ⟨w.heap.size, 0, rfl, hgs, fun i hi => by
        rw [sgl_len, HL.out] at hi
        obtain ⟨bb, bo, e1, e2⟩ := hcell i hi
        rw [sgl_at (by rw [HL.out]; exact hi), Nat.zero_add]
        refine ⟨some ⟨bb, bo + i, none⟩, cb - i, e2, ?_⟩
        have hbw := HB.out.below HBW.out (Nat.le_refl _)
        obtain ⟨b1, o1, e3, hbl, hall⟩ := hbw.resolve_left (by intro e; have := HL.out; rw [e] at this; simp at this; omega)
        rw [e1] at e3; cases e3
        refine .inr ⟨bb, bo + i, rfl, hbl, fun j hj => ?_⟩
        simp at hj; subst hj
        have := hall i (by rw [HL.out]; exact hi)
        simpa using this⟩
      have hce : ∀ i, i < k → (cat2 k ls (sgl l)).getD i [] = ls.getD i [] ++ [l.getD i 0] := fun i hi => by rw [cat2_at hi, sgl_at (by rw [HL.out]; exact hi)]
      have hwd : Wd k (k + 1) (cat2 k ls (sgl l)) := ⟨hn6, by omega, cat2_len _ _ _, fun i hi => by rw [hce i hi, List.length_append, HS.out.row i hi]; rfl, fun i hi => by
        rw [hce i hi]; exact nms_snoc (HS.out.nums i hi) (HLN.out.at i)⟩
      have HSV := Lib.hid (iSolved a ca (some ⟨w.heap.size, 0, none⟩) k k (k + 1) ls (sgl l) wr (HA.out.below HBW.out (Nat.le_refl _)) hmb HS.out.len (by rw [sgl_len]; exact HL.out) hn6 (fun i hi => by rw [sgl_at (by rw [HL.out]; exact hi), HS.out.row i hi]; simp; omega)
        (fun W p q ai ci hb2 he i hi hc hnone => by
          cases he
          obtain ⟨bb, bo, _, e2⟩ := hcell i hi
          have e := (hb2.cell (p := ⟨w.heap.size, i, none⟩) hgs).trans e2
          rw [Nat.zero_add, e] at hc
          simp at hc
          rw [hnone] at hc
          simp at hc) hwd (by omega))
      have HWD := Lib.hid hwd
      have hzr := HBW.out.size
      clear hmb hcell t1 t2 HT hwd hce
      go_wp2_with fail
      refine HSV.out.mono ?_; rintro e w2 ⟨hb2, ⟨hz, rfl⟩ | ⟨hz, g, R, K, rfl, hm⟩⟩
      · have HR := Lib.hid (slP_0 hz)
        have HCO := Lib.hid (iColumn none 0 0 0 [] w2 (.inl rfl) rfl (by omega) (fun i h => absurd h (Nat.not_lt_zero _)) (fun i h => absurd h (Nat.not_lt_zero _)))
        have HB2 := Lib.hid (HBW.out.trans (hb2.mono hzr))
        clear hz HSV hb2
        go_wp2_with fail
        refine HCO.out.mono ?_; rintro e w3 ⟨g3, c3, rfl, ho3, hb3⟩
        have hz2 := HB2.out.size
        go_wp2_with fail
        go_ret2
        exact ⟨g3, c3, ret_slc (by rw [HR.out.1]; rfl) HR.out.2.symm, by rw [HR.out.1]; exact ho3.mono hz2, HB2.out.trans (hb3.mono hz2)⟩
      · have HR := Lib.hid (slP_1 hz)
        have hwr := Wd.rowP k 0 _ HWD.out (by omega)
        have hcl : (cutF k (rowP k 0 (cat2 k ls (sgl l)))).length = k := by rw [cutF_len]; exact hwr.len
        have hrl : ∀ i, i < k → ((cutF k (rowP k 0 (cat2 k ls (sgl l)))).getD i []).length = 1 := fun i hi => by rw [cutF_at (by rw [hwr.len]; exact hi), List.length_drop, hwr.row i hi]; omega
        have HCO := Lib.hid (iColumn (some ⟨g, 0, none⟩) k k 0 (cutF k (rowP k 0 (cat2 k ls (sgl l)))) w2 (hm.mat hcl) hcl hn6 (fun i h => by rw [hrl i h]; omega) (fun i h => by rw [hrl i h]; omega))
        have HB2 := Lib.hid (HBW.out.trans (hb2.mono hzr))
        have HCL : Hid ((coln (cutF k (rowP k 0 (cat2 k ls (sgl l)))) 0).length = (slP k ls l).length) := by show _ = _; rw [HR.out.1]
        clear hz HSV hb2 hm hwr hcl hrl
        go_wp2_with fail
        refine HCO.out.mono ?_; rintro e w3 ⟨g3, c3, rfl, ho3, hb3⟩
        have hz2 := HB2.out.size
        go_wp2_with fail
        go_ret2
        exact ⟨g3, c3, ret_slc HCL.out HR.out.2.symm, by rw [HR.out.1]; exact ho3.mono hz2, HB2.out.trans (hb3.mono hz2)⟩

end Go.Proofs.Ytiimebiecihpkaa
