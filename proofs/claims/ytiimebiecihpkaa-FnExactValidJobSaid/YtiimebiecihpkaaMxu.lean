/- Marks in lists of lists of one's own; what a world keeps but for some blocks; copies of lists with their capacity. -/
import Derived.Test.YtiimebiecihpkaaMxb
namespace Go.Proofs.Ytiimebiecihpkaa
open Go.RowKit
set_option linter.unusedVariables false

theorem OwnA.keep {L : Nat} {w w' : World} {a : Option Addr} {cap : Nat} {l : List Int} {S : Nat → Prop} (h : OwnA L w a cap l) (k : Kp S w w') (hS : ∀ g, blk a l = some g → ¬ S g) : OwnA L w' a cap l := by
  by_cases hl : l = []
  · exact .inl hl
  · obtain ⟨g, rfl, ho⟩ := h.resolve_left hl
    exact .inr ⟨g, rfl, OwR.keep ho.owr k (fun p hp => by cases hp; exact hS g (by simp [blk, hl]))⟩
theorem Kp.grown {S : Nat → Prop} {w w' : World} {row : Option Nat} (h : w.grownBy w' row) (hS : ∀ g, row = some g → S g) : Kp S w w' :=
  ⟨h.os, h.tape, h.output, h.size, fun i hi hn => h.block i hi (fun e => hn (hS i e.symm))⟩

theorem blk_eq {r : Nat} {l : List Int} {g : Nat} (h : blk (some ⟨r, 0, none⟩) l = some g) : g = r := by
  unfold blk at h
  split at h
  · cases h
  · simpa using h.symm
theorem Mo.congr {W : World} {L g kg n k : Nat} {ls ls' : List (List Int)} {R K : Nat → Nat} (h : Mo W L g kg n k ls R K) (hl : ∀ q, q < k → ls'.getD q [] = ls.getD q []) : Mo W L g kg n k ls' R K := by
  obtain ⟨vs, h1, h2⟩ := h.top
  exact ⟨⟨vs, h1, fun q hq => by rw [hl q hq]; exact h2 q hq⟩, fun q hq => by rw [hl q hq]; exact h.row q hq, h.ne, h.inj⟩
/-- a row is written anew, in its own block -/
theorem Mo.rowTo {W W' : World} {L g kg n k : Nat} {ls ls' : List (List Int)} {R K : Nat → Nat} (h : Mo W L g kg n k ls R K) (i : Nat) (hi : i < k) {x : List Int} (hx : x.length = (ls.getD i []).length) (hg : W.grownBy W' (blk (some ⟨R i, 0, none⟩) (ls.getD i []))) (ho : OwnA L W' (some ⟨R i, 0, none⟩) (K i) x) (hl : ∀ q, q < k → ls'.getD q [] = if q = i then x else ls.getD q []) : Mo W' L g kg n k ls' R K := by
  obtain ⟨vs, h1, h2⟩ := h.top
  refine ⟨⟨vs, h1.kept hg (.inr (by
    intro e
    have e2 : blk (some ⟨R i, 0, none⟩) (ls.getD i []) = some g := by simpa [Value.ownBlock] using e.symm
    exact h.ne i hi (blk_eq e2).symm)), fun q hq => ?_⟩, fun q hq => ?_, h.ne, h.inj⟩
  · rw [hl q hq, h2 q hq]
    by_cases e : q = i
    · subst e; rw [if_pos rfl, hx]
    · rw [if_neg e]
  · rw [hl q hq]
    by_cases e : q = i
    · subst e
      rw [if_pos rfl]
      rcases ho with e | ⟨g', hg', ho⟩
      · have e3 : ls.getD q [] = [] := List.length_eq_zero_iff.1 (by rw [← hx, e]; rfl)
        have h3 := (h.row q hq).keptBy hg (by rw [e3]; unfold blk; simp)
        rw [e3] at h3; rw [e]; exact h3
      · simp only [Option.some.injEq, Addr.mk.injEq] at hg'
        obtain ⟨e4, _⟩ := hg'
        rw [e4]; exact ho
    · rw [if_neg e]
      exact (h.row q hq).keptBy hg (fun e2 => e (h.inj q i hq hi (blk_eq e2)))

/-- the first i rows are marked -/
def mkR (ls : List (List Int)) (k0 i : Nat) : List (List Int) := (List.range ls.length).map fun q => if q < i then marks (ls.getD q []).length (k0 + lenK ls q) else ls.getD q []
theorem mkR_len (ls : List (List Int)) (k0 i : Nat) : (mkR ls k0 i).length = ls.length := by simp [mkR]
theorem mkR_get {ls : List (List Int)} {k0 i q : Nat} (h : q < ls.length) : (mkR ls k0 i).getD q [] = if q < i then marks (ls.getD q []).length (k0 + lenK ls q) else ls.getD q [] := by
  simp [mkR, List.getD_eq_getElem?_getD, h]
theorem mkR_rowlen {ls : List (List Int)} {k0 i q : Nat} (h : q < ls.length) : ((mkR ls k0 i).getD q []).length = (ls.getD q []).length := by
  rw [mkR_get h]; split
  · rw [marks_len]
  · rfl
theorem lenK_le {ls : List (List Int)} {k : Nat} (h : k ≤ ls.length) : lenK ls k ≤ lenK ls ls.length := by
  have := lenK_mono ls k (ls.length - k)
  rwa [show k + (ls.length - k) = ls.length by omega] at this

set_option maxRecDepth 100000 in
set_option maxHeartbeats 3200000 in
theorem markMat (L g kg : Nat) (ls : List (List Int)) (R K : Nat → Nat) (k0 : Nat) (q : Int) (cap : Nat) (w : World) (hq : (k0 : Int) = q) (h : Mo w L g kg ls.length ls.length ls R K) (hs : mSz ls ≤ 1048576) (hk0 : k0 ≤ 8388608) :
    Calls Try.prog 22 #[.slice (some ⟨g, 0, none⟩) ls.length cap, .int .i64 q] w fun e w' => e = .returned (.int .i64 (q + (lenK ls ls.length : Int))) ∧ Mo w' L g kg ls.length ls.length (mkR ls k0 ls.length) R K ∧ Kp (fun b => ∃ i, i < ls.length ∧ R i = b) w w' := by
  subst hq
  have hll : ls.length ≤ 1048576 := by unfold mSz at hs; omega
  have HT : Hid (lenK ls ls.length ≤ 1048576) := by show _ ≤ _; unfold mSz at hs; omega
  have HM0 : Hid (Mo w L g kg ls.length ls.length (mkR ls k0 0) R K) := Mo.congr h (fun q hq => by rw [mkR_get hq]; simp)
  have HR := fun i => Lib.hid (mSz_row (i := i) hs)
  clear hs h
  go_enter Try.func22, Try.ntmps22
  go_wp2_with fail
  go_loopw [1, 5] (fun q i wr => ∃ k : Nat, k ≤ ls.length ∧ i = .int .i64 k ∧ q = .int .i64 ((k0 + lenK ls k : Nat) : Int) ∧ Hid (Mo wr L g kg ls.length ls.length (mkR ls k0 k) R K) ∧ Hid (Kp (fun b => ∃ i, i < ls.length ∧ R i = b) w wr)) (fun _ i _ => ls.length - (intOf i).toNat)
  case atStart => exact ⟨0, Nat.zero_le _, rfl, by simp [lenK], HM0, Kp.refl _ _⟩
  case round =>
    obtain ⟨k, hk, rfl, rfl, HM, HK⟩ := hrel
    clear HM0
    by_cases hlt : k < ls.length
    · have hii : (k : Int) < (ls.length : Int) := by omega
      have hr := HM.out.row k hlt
      have c0 := HM.out.cell (Nat.le_refl _) k hlt
      rw [mkR_get hlt, if_neg (Nat.lt_irrefl _)] at hr c0
      have HC := Lib.hid (markAt L (some ⟨R k, 0, none⟩) (K k) (ls.getD k []) (k0 + lenK ls k) _ wr rfl hr.a (HR k).out (by have := lenK_le hk; have := HT.out; omega))
      clear HR hr
      generalize hx : ls.getD k [] = x at c0 HC
      have HX := Lib.hid hx
      clear hx
      have HLT := Lib.hid hlt
      go_wp2_with fail
      refine HC.out.mono ?_; rintro e w2 ⟨rfl, ho, hg⟩
      have HN : Hid (Mo w2 L g kg ls.length ls.length (mkR ls k0 (k + 1)) R K) := HM.out.rowTo k hlt (x := marks x.length (k0 + lenK ls k)) (by rw [marks_len, mkR_rowlen hlt, HX.out]) (by rw [mkR_get hlt, if_neg (Nat.lt_irrefl _), HX.out]; exact hg) ho (fun q hq => by
        rw [mkR_get hq, mkR_get hq]
        by_cases e : q = k
        · subst e; rw [if_pos (by omega), if_pos rfl, HX.out]
        · have e2 : q < k + 1 ↔ q < k := by omega
          simp only [e2, e, if_false])
      have HKN : Hid (Kp (fun b => ∃ i, i < ls.length ∧ R i = b) w w2) := HK.out.trans (Kp.grown hg (fun g' e => ⟨k, hlt, (blk_eq e).symm⟩))
      have HQ : Hid ((((k0 + lenK ls k : Nat) : Int) + (x.length : Int)) = ((k0 + lenK ls (k + 1) : Nat) : Int)) := by show _ = _; rw [lenK, HX.out]; push_cast; omega
      clear ho hg HM HK HC c0 HX
      rw [HQ.out]
      go_wp2_with fail
      go_roundw
      case rel => exact ⟨k + 1, by omega, by go_num, rfl, HN, HKN⟩
      case measure => simp [intOf]; omega
    · have hii : ¬ (k : Int) < (ls.length : Int) := by omega
      obtain rfl : k = ls.length := by omega
      go_wp2_with fail
      go_ret
      exact ⟨rfl, HM.out, HK.out⟩

set_option maxRecDepth 100000 in
set_option maxHeartbeats 3200000 in
theorem heldMat (a : Option Addr) (ls : List (List Int)) (k0 : Nat) (q : Int) (cap : Nat) (w : World) (hq : (k0 : Int) = q) (h : Mat w a (mkR ls k0 ls.length)) (hs : mSz ls ≤ 1048576) (hk0 : k0 ≤ 8388608) :
    Calls Try.prog 27 #[.slice a ls.length cap, .int .i64 q] w fun e w' => e = .returned (.int .i64 (q + (lenK ls ls.length : Int))) ∧ w = w' := by
  subst hq
  have hll : ls.length ≤ 1048576 := by unfold mSz at hs; omega
  have HT : Hid (lenK ls ls.length ≤ 1048576) := by show _ ≤ _; unfold mSz at hs; omega
  have HR := fun i => Lib.hid (mSz_row (i := i) hs)
  clear hs
  go_enter Try.func27, Try.ntmps27
  go_wp2_with fail
  go_loop [1, 5] (fun q i => ∃ k : Nat, k ≤ ls.length ∧ i = .int .i64 k ∧ q = .int .i64 ((k0 + lenK ls k : Nat) : Int)) (fun _ i => ls.length - (intOf i).toNat)
  case atStart => exact ⟨0, Nat.zero_le _, rfl, by simp [lenK]⟩
  case round =>
    obtain ⟨k, hk, rfl, rfl⟩ := hrel
    by_cases hlt : k < ls.length
    · have hii : (k : Int) < (ls.length : Int) := by omega
      obtain ⟨b, off, rfl, hbl, hall⟩ := h.resolve_left (by intro e; have := congrArg List.length e; rw [mkR_len] at this; have h0 : ls.length = 0 := this; omega)
      obtain ⟨ai, ci, c0, hat⟩ := hall k (by rw [mkR_len]; exact hlt)
      rw [mkR_get hlt, if_pos hlt] at c0 hat
      rw [marks_len] at c0
      have HC := Lib.hid (heldAt ai ci (ls.getD k []).length (k0 + lenK ls k) _ w rfl hat (HR k).out (by have := lenK_le hk; have := HT.out; omega))
      clear HR hat hall
      have HQ : Hid ((((k0 + lenK ls k : Nat) : Int) + ((ls.getD k []).length : Int)) = ((k0 + lenK ls (k + 1) : Nat) : Int)) := by show _ = _; rw [lenK]; push_cast; omega
      generalize (ls.getD k []).length = x at c0 HC HQ
      have hd : decide (((k0 + lenK ls (k + 1) : Nat) : Int) < 0) = false := decide_eq_false (by omega)
      rw [HQ.out] at HC
      go_wp2_with fail
      refine HC.out.mono ?_; rintro e w2 ⟨rfl, rfl⟩
      clear HC c0 HQ
      go_wp2_with fail
      go_round
      case rel => exact ⟨k + 1, by omega, by go_num, rfl⟩
      case measure => simp [intOf]; omega
    · have hii : ¬ (k : Int) < (ls.length : Int) := by omega
      obtain rfl : k = ls.length := by omega
      go_wp2_with fail
      go_ret
      exact ⟨rfl, rfl⟩

set_option maxHeartbeats 800000 in
theorem toInt64E (a : Option Addr) (cap : Nat) (l : List Int) (w : World) (h : At w a l) (hl : l.length ≤ 1048576) :
    Calls Try.prog 18 #[.slice a l.length cap] w fun e w' => ∃ g, e = .returned (.slice (some ⟨g, 0, none⟩) l.length l.length) ∧ Own w.heap.size w' g l.length l ∧ Below w.heap.size w w' := by
  obtain ⟨i0, hi, hz0, hz1, hz2⟩ := info_parts info64
  go_enter Try.func18, Try.ntmps18
  go_wp2_with (refine wpList_make_full _ rfl _ _ 23 rfl w.heap.size 2 i0 (.int .i64 0) 1 Try.underlying23 hi hz0 hz1 .i64 .i64 _ _ l.length rfl rfl rfl rfl ?c2 ?c3 (Nat.le_refl _) ?_)
  case c2 => rw [hz2]; omega
  case c3 => unfold maxLen; omega
  intro w1 ho1 hg1
  have hb1 := (Below.refl w.heap.size w).grown hg1 (Nat.le_refl _) (by intro k hk; cases hk)
  have ho2 := made_own ho1
  clear ho1 hg1 hi hz0 hz1 hz2
  go_wp2
  go_loopw [4] (fun i wr => ∃ k : Nat, k ≤ l.length ∧ i = .int .i64 k ∧ Own w.heap.size wr w.heap.size l.length (fillz l.length (l.take k)) ∧ Below w.heap.size w wr) (fun i _ => l.length - (intOf i).toNat)
  case atStart => exact ⟨0, Nat.zero_le _, rfl, ho2, hb1⟩
  case round =>
    obtain ⟨k, hk, rfl, ho, hb⟩ := hrel
    by_cases hlt : k < l.length
    · obtain ⟨b, off, rfl, hbl, hc⟩ := (h.resolve_left (by intro e; rw [e] at hlt; simp at hlt))
      have hck : wr.cell? ⟨b, off + k, none⟩ = some (.int .i64 (l.getD k 0)) := (hb.cell (p := ⟨b, off + k, none⟩) hbl).trans (hc k hlt)
      have hlen : (l.take k).length = k := by simp; omega
      have hcs := ho.cellAt k (by rw [fillz_len (by omega)]; exact hlt)
      have hfr := ho.frz k
      have hset := ho.set k (l.getD k 0)
      have hs2 : (fillz l.length (l.take k)).set k (l.getD k 0) = fillz l.length (l.take (k + 1)) := by
        have := fillz_set (n := l.length) (xs := l.take k) (by omega) (l.getD k 0)
        rw [hlen, take_snoc hlt] at this; exact this
      rw [hs2] at hset
      have hb2 := hb.setCell (p := ⟨w.heap.size, k, none⟩) (Nat.le_refl _) (.int .i64 (l.getD k 0))
      clear hc hlen hs2 ho
      generalize l.getD k 0 = x at hck hset hb2
      go_wp2
      go_roundw
      case rel => exact ⟨k + 1, by omega, by go_num, hset, hb2⟩
      case measure => simp [intOf]; omega
    · have hkk : k = l.length := by omega
      subst hkk
      rw [List.take_length, fillz_full rfl] at ho
      go_wp2
      go_ret
      exact ⟨_, rfl, ho, hb⟩

end Go.Proofs.Ytiimebiecihpkaa
