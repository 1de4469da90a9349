/- Steps of the program's elimination: a divisor is sought, rows are exchanged. -/
import Derived.Test.YtiimebiecihpkaaMxe
import Derived.Test.YtiimebiecihpkaaNfn
import Derived.Deep.RegionWith
namespace Go.Proofs.Ytiimebiecihpkaa
open Go.RowKit
set_option linter.unusedVariables false

set_option maxRecDepth 100000 in
set_option maxHeartbeats 3200000 in
theorem iDivides (B1 B2 k : Nat) (a : Option Addr) (ca n : Nat) (r : List Int) (w : World) (h1 : w.cell? ⟨B1, 1, none⟩ = some ofN) (h2 : w.cell? ⟨B2, 0, none⟩ = some (.int .i64 k)) (ha : At w a r) (hn : r.length = n) (hk : k < n) :
    Calls Try.prog 204 #[.slice a n ca, .pointer (some ⟨B1, 0, none⟩), .pointer (some ⟨B2, 0, none⟩)] w fun e w' => e = .returned (.bool (!(r.getD k 0 == 0))) ∧ Below w.heap.size w w' := by
  obtain ⟨b, off, rfl, hb, hall⟩ := ha.resolve_left (by intro e; rw [e] at hn; simp at hn; omega)
  have c0 := hall k (by omega)
  have hki : (k : Int) < (n : Int) := by omega
  have HZ := fun (W : World) => Lib.hid (nZero (r.getD k 0) W)
  have zA := zerAhead
  have zM := zerMeth
  clear hall hn
  generalize r.getD k 0 = x at *
  have HB1 := Lib.hid (Below.refl w.heap.size w).drew
  go_enter Try.func204, Try.ntmps204
  go_wp2_with fail
  go_region_with (go_at_call 243; refine (HZ _).out.mono ?_; rintro e w5 ⟨rfl, hb5⟩; have hbb := HB1.out.trans hb5)
  all_goals
    go_wp2_with fail
    go_ret
    exact ⟨rfl, hbb⟩

set_option maxRecDepth 100000 in
set_option maxHeartbeats 3200000 in
theorem iSwap (L g n i j : Nat) (ls : List (List Int)) (R K : Nat → Nat) (w : World) (h : Mo w L g n n n ls R K) (hl : ls.length = n) (hi : i < n) (hj : j < n) (hij : i ≠ j) (hn : n ≤ 6) :
    Calls Try.prog 206 #[.slice (some ⟨g, 0, none⟩) n n, .int .i64 i, .int .i64 j] w fun e w' => e = .returned (.tuple #[]) ∧ (∃ R' K', Mo w' L g n n n ((ls.set i (ls.getD j [])).set j (ls.getD i [])) R' K' ∧ ∀ q, q < n → ∃ q', q' < n ∧ R' q = R q') ∧ Kp (fun b => b = g) w w' := by
  have c1 := h.cell (Nat.le_refl _) i hi
  have c2 := h.cell (Nat.le_refl _) j hj
  have f1 := h.frz i
  have f2 := h.frz j
  have HS := Lib.hid (h.swap hl i j hi hj hij)
  have hii : (i : Int) < (n : Int) := by omega
  have hjj : (j : Int) < (n : Int) := by omega
  have hb := h.base
  clear h
  generalize (ls.getD i []).length = ni at c1 HS
  generalize (ls.getD j []).length = nj at c2 HS
  go_enter Try.func206, Try.ntmps206
  go_wp2_with fail
  go_region
  all_goals
    go_end0
    exact ⟨rfl, ⟨_, _, ⟨HS.out.top, HS.out.row, HS.out.ne, HS.out.inj⟩, fun q hq => by
      by_cases e1 : q = j
      · exact ⟨i, hi, if_pos e1⟩
      · by_cases e2 : q = i
        · exact ⟨j, hj, by show (if q = j then R i else if q = i then R j else R q) = R j; rw [if_neg e1, if_pos e2]⟩
        · exact ⟨q, hq, by show (if q = j then R i else if q = i then R j else R q) = R q; rw [if_neg e1, if_neg e2]⟩⟩, ((Kp.set (S := fun b => b = g) (p := ⟨g, i, none⟩) rfl).trans (Kp.set (S := fun b => b = g) (p := ⟨g, j, none⟩) rfl)).trans (Kp.of_below (Below.refl _ _).drew)⟩

/-- what the search answers -/
def seekR (ls : List (List Int)) (c : Nat) : Int := match fnz ls c with | some r => ((r - c : Nat) : Int) | none => -1
theorem seek_some {ls : List (List Int)} {c r : Nat} (h : fnz ls c = some r) : seekR ls c = ((r - c : Nat) : Int) := by unfold seekR; rw [h]
theorem seek_none {ls : List (List Int)} {c : Nat} (h : fnz ls c = none) : seekR ls c = -1 := by unfold seekR; rw [h]
set_option maxRecDepth 100000 in
set_option maxHeartbeats 3200000 in
theorem iSeek (L g n c B1 B2 : Nat) (ls : List (List Int)) (R K : Nat → Nat) (kc : Nat) (w : World) (h : Mo w L g n n n ls R K) (hl : ls.length = n) (hrow : ∀ i, i < n → c < (ls.getD i []).length) (hc : c < n) (hn : n ≤ 6) (h1 : w.cell? ⟨B1, 1, none⟩ = some ofN) (h2 : w.cell? ⟨B2, 0, none⟩ = some (.int .i64 c)) :
    Calls Try.prog 205 #[.slice (some ⟨g, c, none⟩) (n - c) kc, .func (.func 204) #[] #[.pointer (some ⟨B1, 0, none⟩), .pointer (some ⟨B2, 0, none⟩)]] w fun e w' => e = .returned (.int .i64 (seekR ls c)) ∧ Below w.heap.size w w' := by
  have HF0 : Hid (fnz ls c = lst (nzB ls c) (n - c) c) := by show _ = _; unfold fnz; rw [hl]
  have HM := Lib.hid h
  have HR := Lib.hid hrow
  have hB1 := cell_lt h1
  have hB2 := cell_lt h2
  have HL := Lib.hid hl
  obtain ⟨d, hd⟩ : ∃ d, d = n - c := ⟨_, rfl⟩
  rw [← hd]
  rw [← hd] at HF0
  have HD := Lib.hid hd
  clear h hrow hd hl
  go_enter Try.func205, Try.ntmps205
  go_wp2_with fail
  go_loopw [8] (fun q wr => ∃ k : Nat, k ≤ d ∧ q = .int .i64 k ∧ Hid (fnz ls c = lst (nzB ls c) (d - k) (c + k)) ∧ Hid (Below w.heap.size w wr)) (fun q _ => d - (intOf q).toNat)
  case atStart => exact ⟨0, Nat.zero_le _, rfl, HF0.out, Below.refl _ _⟩
  case round =>
    obtain ⟨k, hk, rfl, HF, HB⟩ := hrel
    clear HF0
    by_cases hlt : k < d
    · have hii : (k : Int) < (d : Int) := by omega
      have hckn : c + k < n := by have := HD.out; omega
      have HMr := Lib.hid (HM.out.next HB.out)
      have x0 := HMr.out.cell (Nat.le_refl _) (c + k) hckn
      have hrc := HR.out (c + k) hckn
      have HQ := Lib.hid (iDivides B1 B2 c (some ⟨R (c + k), 0, none⟩) (K (c + k)) _ (ls.getD (c + k) []) wr ((HB.out.cell (p := ⟨B1, 1, none⟩) hB1).trans h1) ((HB.out.cell (p := ⟨B2, 0, none⟩) hB2).trans h2) (HMr.out.row (c + k) hckn).at rfl hrc)
      have HE : Hid (fnz ls c = if nzB ls c (c + k) = true then some (c + k) else lst (nzB ls c) (d - (k + 1)) (c + (k + 1))) := by show _ = _; rw [HF.out, show d - k = (d - (k + 1)) + 1 by omega]; rfl
      have hsz := HB.out.size
      have hnz : nzB ls c (c + k) = !((ls.getD (c + k) []).getD c 0 == 0) := rfl
      rw [← hnz] at HQ
      clear hnz HF hrc
      generalize (ls.getD (c + k) []).length = m at *
      cases hb : nzB ls c (c + k) with
      | true =>
        have HR2 : Hid (seekR ls c = (k : Int)) := by show _ = _; rw [seek_some (HE.out.trans (by rw [hb, if_pos rfl])), Nat.add_sub_cancel_left]
        rw [hb] at HQ
        clear HE hb HMr
        go_wp2_with fail
        refine HQ.out.mono ?_; rintro e w5 ⟨rfl, hb5⟩
        have hw5 := HB.out.trans (hb5.mono hsz)
        go_wp2_with fail
        go_ret
        exact ⟨ret_int HR2.out.symm, hw5⟩
      | false =>
        have HE2 := Lib.hid (HE.out.trans (if_neg (by rw [hb]; simp)))
        rw [hb] at HQ
        clear HE hb HMr
        go_wp2_with fail
        refine HQ.out.mono ?_; rintro e w5 ⟨rfl, hb5⟩
        have hw5 := Lib.hid (HB.out.trans (hb5.mono hsz))
        clear hb5
        go_wp2_with fail
        go_roundw
        case rel => exact ⟨k + 1, by omega, by go_num, HE2.out, hw5.out⟩
        case measure => simp [intOf]; omega
    · have hii : ¬ (k : Int) < (d : Int) := by omega
      have HR2 : Hid (seekR ls c = (-1 : Int)) := by show _ = _; exact seek_none (HF.out.trans (by rw [show d - k = 0 by omega]; rfl))
      clear HF
      go_wp2_with fail
      go_ret
      exact ⟨ret_int HR2.out.symm, HB.out⟩

end Go.Proofs.Ytiimebiecihpkaa
