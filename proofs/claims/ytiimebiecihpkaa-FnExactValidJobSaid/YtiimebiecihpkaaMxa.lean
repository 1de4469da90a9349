/- Lists of lists of numbers: as they come in, as copies of one's own; sizes, copies, comparisons, as the laws make them. -/
import Derived.Test.YtiimebiecihpkaaFrame
import Derived.Test.YtiimebiecihpkaaTar
import Derived.Deep.Matrix
import Derived.Deep.QuietTactic
import Derived.BigQuiet
import Derived.StillTailTactics
namespace Go.Proofs.Ytiimebiecihpkaa
open Go.ChangeShapes Go.WideShapes Go.ChangeAt Go.RowKit
set_option linter.unusedVariables false

/-- memory reads as a list of lists -/
def Mat (W : World) (a : Option Addr) (ls : List (List Int)) : Prop :=
  ls = [] ∨ ∃ b off, a = some ⟨b, off, none⟩ ∧ b < W.heap.size ∧ ∀ i, i < ls.length → ∃ ai ci, W.cell? ⟨b, off + i, none⟩ = some (.slice ai (ls.getD i []).length ci) ∧ At W ai (ls.getD i [])
theorem Mat.below {w w' : World} {a : Option Addr} {ls : List (List Int)} {B : Nat} (h : Mat w a ls) (hb : Below B w w') (hB : w.heap.size ≤ B) : Mat w' a ls := by
  rcases h with h | ⟨b, off, h1, h2, h3⟩
  · exact .inl h
  · refine .inr ⟨b, off, h1, Nat.lt_of_lt_of_le h2 hb.size, fun i hi => ?_⟩
    obtain ⟨ai, ci, h4, h5⟩ := h3 i hi
    exact ⟨ai, ci, (hb.cell (p := ⟨b, off + i, none⟩) (by show b < B; omega)).trans h4, h5.below hb hB⟩
/-- a list of lists that came in -/
def IsMat (W : World) (v : Value) : Prop := ∃ a cap ls, v = .slice a ls.length cap ∧ Mat W a ls ∧ (∀ i, Rng (ls.getD i [])) ∧ ls.length ≤ 9223372036854775807 ∧ ∀ i, (ls.getD i []).length ≤ 9223372036854775807
theorem rng_nil : Rng [] := fun n hn => by simp at hn
theorem row_at {w : World} {A : Option Addr} {L C : Nat} {Z : List Int} {base : Nat} (hLC : L ≤ C) (hz : Z.length = C) (hn : A = none → C = 0) (hcell : ∀ a', A = some a' → base ≤ a'.block ∧ ∀ c, c < C → w.cell? (a'.add c) = some (.int .i64 (Z.getD c 0))) : At w A (Z.take L) := by
  by_cases h0 : L = 0
  · left; rw [h0]; simp
  · cases A with
    | none => have := hn rfl; omega
    | some x =>
      have hc := (hcell x rfl).2
      obtain ⟨b, off, spot⟩ := x
      have hc0 := hc 0 (by omega)
      have hspot : spot = none := by simpa [Addr.add] using World.cell?_spot hc0
      subst hspot
      have h1 : w.cell? ⟨b, off, none⟩ = some (.int .i64 (Z.getD 0 0)) := by simpa [Addr.add] using hc0
      refine .inr ⟨b, off, rfl, cell_lt h1, fun k hk => ?_⟩
      have hk' : k < L := by simp at hk; omega
      have hck := hc k (by omega)
      rw [show (Z.take L).getD k 0 = Z.getD k 0 from by simp [List.getD_eq_getElem?_getD, hk']]
      have e : (⟨b, off, none⟩ : Addr).add k = ⟨b, off + k, none⟩ := by cases k <;> simp [Addr.add]
      rw [e] at hck; exact hck
set_option maxRecDepth 100000 in
theorem openMat {H : Type} {enc : TypeId × Value → H} {W : World} {base : Nat} {v : Value} {d : DataW H} {p : List MemPlace} (hw : Value.okWide Try.prog W .any base 22 v) (h : DataW.Trod enc Try.prog W 0 (fun _ => true) true 22 v d p) : IsMat W v := by
  obtain ⟨a0, len0, cap0, rfl⟩ := okWide_slice Try.underlying22 hw
  obtain ⟨fuel, hf⟩ := h
  rcases Go.Deep.open_int_rows Try.underlying22 Try.underlying23 Try.underlying2 (by kernel_rfl) (by kernel_rfl) hf with ⟨hcs, _⟩ | ⟨a, len, cap, A, L, C, Z, hcs, _, hl, hm, _, hrow⟩
  · simp [Value.cells] at hcs
    obtain ⟨rfl, rfl, rfl⟩ := hcs
    exact ⟨none, 0, [], rfl, .inl rfl, fun i => by simp [rng_nil], by simp, fun i => by simp⟩
  · simp [Value.cells] at hcs
    obtain ⟨rfl, rfl, rfl⟩ := hcs
    have hlen : ((List.range len0).map fun r => (Z r).take (L r)).length = len0 := by simp
    have hget : ∀ i, i < len0 → ((List.range len0).map fun r => (Z r).take (L r)).getD i [] = (Z i).take (L i) := fun i hi => by simp [List.getD_eq_getElem?_getD, hi]
    have hout : ∀ i, ¬ i < len0 → ((List.range len0).map fun r => (Z r).take (L r)).getD i [] = [] := fun i hi => by rw [List.getD_eq_getElem?_getD, List.getElem?_eq_none (by simp; omega)]; rfl
    refine ⟨some a, cap0, (List.range len0).map fun r => (Z r).take (L r), by rw [hlen], ?_, fun i => ?_, by rw [hlen]; unfold maxLen at hm; omega, fun i => ?_⟩
    · by_cases h0 : len0 = 0
      · left; rw [h0]; rfl
      · have hc0 := (hrow 0 (by omega)).1
        obtain ⟨b, off, spot⟩ := a
        have hspot : spot = none := by simpa [Addr.add] using World.cell?_spot hc0
        subst hspot
        have h1 : W.cell? ⟨b, off, none⟩ = some (.slice (A 0) (L 0) (C 0)) := by simpa [Addr.add] using hc0
        refine .inr ⟨b, off, rfl, cell_lt h1, fun i hi => ?_⟩
        rw [hlen] at hi
        obtain ⟨r1, r2, r3, r4, r5, r6, r7⟩ := hrow i (by omega)
        have e : (⟨b, off, none⟩ : Addr).add i = ⟨b, off + i, none⟩ := by cases i <;> simp [Addr.add]
        rw [e] at r1
        refine ⟨A i, C i, ?_, ?_⟩
        · rw [hget i hi, List.length_take, r4, Nat.min_eq_left r2]; exact r1
        · rw [hget i hi]; exact row_at r2 r4 r6 r7
    · by_cases hi : i < len0
      · rw [hget i hi]
        obtain ⟨_, _, _, _, r5, _⟩ := hrow i (by omega)
        exact fun n hn => bounds_i64 (r5 n (List.mem_of_mem_take hn))
      · rw [hout i hi]; exact rng_nil
    · by_cases hi : i < len0
      · rw [hget i hi, List.length_take]
        obtain ⟨_, r2, r3, r4, _⟩ := hrow i (by omega)
        unfold maxLen at r3; omega
      · rw [hout i hi]; simp

/- sizes -/
def lenK (ls : List (List Int)) : Nat → Nat
  | 0 => 0
  | k + 1 => lenK ls k + (ls.getD k []).length
theorem lenK_mono (ls : List (List Int)) (k : Nat) : ∀ d, lenK ls k ≤ lenK ls (k + d)
  | 0 => Nat.le_refl _
  | d + 1 => by rw [← Nat.add_assoc, lenK]; have := lenK_mono ls k d; omega
theorem lenK_row {ls : List (List Int)} {i n : Nat} (h : i < n) : (ls.getD i []).length ≤ lenK ls n := by
  have := lenK_mono ls (i + 1) (n - (i + 1))
  rw [show i + 1 + (n - (i + 1)) = n by omega, lenK] at this
  omega
def mSz (ls : List (List Int)) : Nat := ls.length + lenK ls ls.length
theorem mSz_row {ls : List (List Int)} {i M : Nat} (h : mSz ls ≤ M) : (ls.getD i []).length ≤ M := by
  by_cases hi : i < ls.length
  · have := lenK_row (ls := ls) hi; unfold mSz at h; omega
  · rw [List.getD_eq_getElem?_getD, List.getElem?_eq_none (by omega)]; simp
/-- what is left of a size -/
def mzR (ls : List (List Int)) (left : Int) : Int := if (mSz ls : Int) ≤ left then left - mSz ls else -1
set_option maxRecDepth 100000 in
set_option maxHeartbeats 1600000 in
theorem szMat (a : Option Addr) (cap : Nat) (ls : List (List Int)) (left : Int) (w : World) (h : Mat w a ls) (hl : ls.length ≤ 9223372036854775807) (hr : ∀ i, (ls.getD i []).length ≤ 9223372036854775807) (h0 : 0 ≤ left) (h1 : left ≤ 1048576) :
    Calls Try.prog 15 #[.slice a ls.length cap, .int .i64 left] w fun e w' => e = .returned (.int .i64 (mzR ls left)) ∧ w = w' := by
  by_cases hbig : left < (ls.length : Int)
  · have hd : decide (left - (ls.length : Int) < 0) = true := decide_eq_true (by omega)
    have HE : Hid (mzR ls left = -1) := by show _ = _; unfold mzR; rw [if_neg (by unfold mSz; omega)]
    clear h
    go_enter Try.func15, Try.ntmps15
    go_wp2_with fail
    go_ret
    exact ⟨ret_int HE.out.symm, rfl⟩
  have hd : decide (left - (ls.length : Int) < 0) = false := decide_eq_false (by omega)
  go_enter Try.func15, Try.ntmps15
  go_wp2_with fail
  go_loop [1, 5] (fun q i => ∃ (k : Nat) (x : Int), k ≤ ls.length ∧ i = .int .i64 k ∧ q = .int .i64 x ∧ Hid (x = left - ls.length - lenK ls k) ∧ 0 ≤ x) (fun _ i => ls.length - (intOf i).toNat)
  case atStart => exact ⟨0, left - ls.length, Nat.zero_le _, rfl, rfl, by show _ = _; simp [lenK], by omega⟩
  case round =>
    obtain ⟨k, x, hk, rfl, rfl, HX, hx0⟩ := hrel
    by_cases hlt : k < ls.length
    · have hii : (k : Int) < (ls.length : Int) := by omega
      obtain ⟨b, off, rfl, hb, hall⟩ := h.resolve_left (by intro e; rw [e] at hlt; simp at hlt)
      obtain ⟨ai, ci, c0, _⟩ := hall k hlt
      have hrk := hr k
      by_cases hsm : ((ls.getD k []).length : Int) ≤ x
      · have HS := Lib.hid (szOuts_t ai (ls.getD k []).length ci x w hsm (by have := HX.out; omega))
        have HN : Hid (x - ((ls.getD k []).length : Int) = left - ls.length - lenK ls (k + 1)) := by show _ = _; rw [HX.out, lenK]; push_cast; omega
        have hd2 : decide (x - ((ls.getD k []).length : Int) < 0) = false := decide_eq_false (by omega)
        clear hall HX
        generalize (ls.getD k []).length = m at *
        go_wp2_with fail
        refine HS.out.mono ?_; rintro e w1 ⟨rfl, rfl⟩
        go_wp2_with fail
        go_round
        case rel => exact ⟨k + 1, x - m, by omega, by go_num, rfl, HN.out, by omega⟩
        case measure => simp [intOf]; omega
      · have HS := Lib.hid (szOuts_f ai (ls.getD k []).length ci x w (by omega) hx0 (by omega))
        have HE : Hid (mzR ls left = -1) := by
          show _ = _
          unfold mzR
          have := lenK_mono ls (k + 1) (ls.length - (k + 1))
          rw [show k + 1 + (ls.length - (k + 1)) = ls.length by omega, lenK] at this
          have hx := HX.out
          rw [if_neg (by unfold mSz; omega)]
        clear hall HX
        generalize (ls.getD k []).length = m at *
        go_wp2_with fail
        refine HS.out.mono ?_; rintro e w1 ⟨rfl, rfl⟩
        go_wp2_with fail
        go_ret
        exact ⟨ret_int HE.out.symm, rfl⟩
    · have hii : ¬ (k : Int) < (ls.length : Int) := by omega
      obtain rfl : k = ls.length := by omega
      have HE : Hid (x = mzR ls left) := by show _ = _; unfold mzR; have hx := HX.out; rw [if_pos (by unfold mSz; omega)]; unfold mSz; omega
      clear HX h
      go_wp2_with fail
      go_ret
      exact ⟨ret_int HE.out, rfl⟩

end Go.Proofs.Ytiimebiecihpkaa
