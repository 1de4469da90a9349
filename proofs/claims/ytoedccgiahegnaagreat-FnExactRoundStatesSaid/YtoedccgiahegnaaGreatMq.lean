/- Rows of one's own that may be nothing yet: each row a slice of nothing, or the head of a block of its own. -/
import Derived.Test.YtoedccgiahegnaaGreatMxu
namespace Go.Proofs.YtoedccgiahegnaaGreat
open Go.RowKit
set_option linter.unusedVariables false

theorem OwR.at {L : Nat} {w : World} {a : Option Addr} {cap : Nat} {l : List Int} (h : OwR L w a cap l) : At w a l := by
  by_cases hl : l = []
  · exact .inl hl
  · obtain ⟨g, rfl, ho⟩ := h.own (List.length_pos_iff.2 hl)
    exact ho.at
structure Mq (W : World) (L g kg n : Nat) (ls : List (List Int)) (A : Nat → Option Addr) (K : Nat → Nat) : Prop where
  top : ∃ vs, W.ownsRow L 25 1 (.slice (some ⟨g, 0, none⟩) n kg) n vs ∧ ∀ i, i < n → vs[i]? = some (.slice (A i) (ls.getD i []).length (K i))
  row : ∀ i, i < n → OwR L W (A i) (K i) (ls.getD i [])
  ne : ∀ i, i < n → ∀ p : Addr, A i = some p → p.block ≠ g
  inj : ∀ i j, i < n → j < n → ∀ p q : Addr, A i = some p → A j = some q → p.block = q.block → i = j
theorem Mq.base {W : World} {L g kg n : Nat} {ls : List (List Int)} {A : Nat → Option Addr} {K : Nat → Nat} (h : Mq W L g kg n ls A K) : L ≤ g ∧ g < W.heap.size := by obtain ⟨vs, h1, _⟩ := h.top; exact h1.lt g rfl
theorem ownsRowKeep {L : Nat} {w w' : World} {e : TypeId} {g n cap : Nat} {vs : List Value} {S : Nat → Prop} (h : w.ownsRow L e 1 (.slice (some ⟨g, 0, none⟩) n cap) n vs) (k : Kp S w w') (hS : ¬ S g) : w'.ownsRow L e 1 (.slice (some ⟨g, 0, none⟩) n cap) n vs := by
  obtain ⟨h1, h2⟩ := h
  refine ⟨h1, ?_⟩
  rcases h2 with h2 | ⟨g', cap', cur, hv, hB, hh, r⟩
  · exact .inl h2
  · refine .inr ⟨g', cap', cur, hv, hB, ?_, r⟩
    have e : g = g' := by simp only [Value.slice.injEq, Option.some.injEq, Addr.mk.injEq] at hv; exact hv.1.1
    subst e
    rw [k.block g (Array.getElem?_eq_some_iff.1 hh).1 hS]; exact hh
theorem Mq.keep {S : Nat → Prop} {W W' : World} {L g kg n : Nat} {ls : List (List Int)} {A : Nat → Option Addr} {K : Nat → Nat} (h : Mq W L g kg n ls A K) (k : Kp S W W') (hg : ¬ S g) (hr : ∀ i, i < n → ∀ p : Addr, A i = some p → ¬ S p.block) : Mq W' L g kg n ls A K := by
  obtain ⟨vs, h1, h2⟩ := h.top
  exact ⟨⟨vs, ownsRowKeep h1 k hg, h2⟩, fun i hi => (h.row i hi).keep k (hr i hi), h.ne, h.inj⟩
theorem Mq.next {W W' : World} {L g kg n : Nat} {ls : List (List Int)} {A : Nat → Option Addr} {K : Nat → Nat} (h : Mq W L g kg n ls A K) (hb : Below W.heap.size W W') : Mq W' L g kg n ls A K := h.keep (S := fun _ => False) (Kp.of_below hb) (fun h => h) (fun _ _ _ _ h => h)
theorem Mq.keepB {S : Nat → Prop} {W W' : World} {L g kg n : Nat} {ls : List (List Int)} {A : Nat → Option Addr} {K : Nat → Nat} (h : Mq W L g kg n ls A K) (k : Kp S W W') (hS : ∀ b, S b → b < L) : Mq W' L g kg n ls A K :=
  h.keep k (fun hs => by have := hS _ hs; have := h.base; omega) (fun i hi p hp hs => by have := hS _ hs; have := (h.row i hi).blk p hp; omega)
theorem Mq.cell {W : World} {L g kg n : Nat} {ls : List (List Int)} {A : Nat → Option Addr} {K : Nat → Nat} (h : Mq W L g kg n ls A K) (i : Nat) (hi : i < n) : W.cell? ⟨g, i, none⟩ = some (.slice (A i) (ls.getD i []).length (K i)) := by
  obtain ⟨vs, h1, h2⟩ := h.top
  rw [h1.cellAt i (by omega)]; exact h2 i hi
theorem Mq.frz {W : World} {L g kg n : Nat} {ls : List (List Int)} {A : Nat → Option Addr} {K : Nat → Nat} (h : Mq W L g kg n ls A K) (i : Nat) : W.frozen? ⟨g, i, none⟩ = false := by obtain ⟨vs, h1, _⟩ := h.top; exact h1.frozenAt i
theorem Mq.mono {W : World} {L L' g kg n : Nat} {ls : List (List Int)} {A : Nat → Option Addr} {K : Nat → Nat} (h : Mq W L g kg n ls A K) (hL : L' ≤ L) : Mq W L' g kg n ls A K := by
  obtain ⟨vs, ⟨h0, h1⟩, h2⟩ := h.top
  refine ⟨⟨vs, ⟨h0, ?_⟩, h2⟩, fun i hi => (h.row i hi).mono hL, h.ne, h.inj⟩
  rcases h1 with h1 | ⟨g', c', cur, e, hb, r⟩
  · exact .inl h1
  · exact .inr ⟨g', c', cur, e, Nat.le_trans hL hb, r⟩
/-- as one reads it -/
theorem Mq.mat {W : World} {L g kg n : Nat} {ls : List (List Int)} {A : Nat → Option Addr} {K : Nat → Nat} (h : Mq W L g kg n ls A K) (hn : ls.length = n) : Mat W (some ⟨g, 0, none⟩) ls :=
  .inr ⟨g, 0, rfl, h.base.2, fun i hi => ⟨A i, K i, by rw [Nat.zero_add]; exact h.cell i (by omega), (h.row i (by omega)).at⟩⟩
theorem Mq.congr {W : World} {L g kg n : Nat} {ls ls' : List (List Int)} {A : Nat → Option Addr} {K : Nat → Nat} (h : Mq W L g kg n ls A K) (hl : ∀ q, q < n → ls'.getD q [] = ls.getD q []) : Mq W L g kg n ls' A K := by
  obtain ⟨vs, h1, h2⟩ := h.top
  exact ⟨⟨vs, h1, fun q hq => by rw [hl q hq]; exact h2 q hq⟩, fun q hq => by rw [hl q hq]; exact h.row q hq, h.ne, h.inj⟩
/-- a row has grown, and is written into the list -/
theorem Mq.put {W W' : World} {L g kg n k r c : Nat} {ls ls' : List (List Int)} {A : Nat → Option Addr} {K : Nat → Nat} {x : List Int} (h : Mq W L g kg n ls A K) (hk : k < n)
    (kp : Kp (fun b => ∃ p : Addr, A k = some p ∧ p.block = b) W W') (hr : Own L W' r c x) (hrg : r ≠ g) (hrn : ∀ i, i < n → i ≠ k → ∀ p : Addr, A i = some p → p.block ≠ r) (hl : ∀ q, q < n → ls'.getD q [] = if q = k then x else ls.getD q []) :
    Mq (W'.setCell ⟨g, k, none⟩ (.slice (some ⟨r, 0, none⟩) x.length c)) L g kg n ls' (fun i => if i = k then some ⟨r, 0, none⟩ else A i) (fun i => if i = k then c else K i) := by
  obtain ⟨vs, h1, h2⟩ := h.top
  have h1k := ownsRowKeep h1 kp (fun ⟨p, hp, e⟩ => h.ne k hk p hp e)
  have h1' := World.ownsRow.stored h1k k (.slice (some ⟨r, 0, none⟩) x.length c)
  have hln : vs.length = n * 1 := h1.1
  refine ⟨⟨_, h1'.1, fun i hi => ?_⟩, fun i hi => ?_, fun i hi p hp => ?_, fun i j hi hj p q hp hq e => ?_⟩
  · rw [hl i hi]
    by_cases e : i = k
    · subst e; rw [List.getElem?_set_self (by omega)]; simp
    · rw [List.getElem?_set_ne (fun e2 => e e2.symm), h2 i hi]; simp [e]
  · rw [hl i hi]
    by_cases e : i = k
    · subst e; simp only [if_true]; exact (hr.setOther (p := ⟨g, i, none⟩) (fun e => hrg e.symm) _).owr
    · simp only [e, if_false]
      refine ((h.row i hi).keep kp (fun p hp ⟨q, hq, e2⟩ => e (h.inj i k hi hk p q hp hq e2.symm))).keep (S := fun b => b = g) (Kp.set (p := ⟨g, k, none⟩) rfl) (fun p hp e2 => h.ne i hi p hp e2)
  · by_cases e : i = k
    · simp only [e, if_true] at hp; cases hp; exact hrg
    · simp only [e, if_false] at hp; exact h.ne i hi p hp
  · by_cases e1 : i = k
    · by_cases e2 : j = k
      · omega
      · simp only [e1, if_true] at hp
        simp only [e2, if_false] at hq
        cases hp
        exact absurd e.symm (hrn j hj e2 q hq)
    · by_cases e2 : j = k
      · simp only [e1, if_false] at hp
        simp only [e2, if_true] at hq
        cases hq
        exact absurd e (hrn i hi e1 p hp)
      · simp only [e1, if_false] at hp
        simp only [e2, if_false] at hq
        exact h.inj i j hi hj p q hp hq e
/-- rows of nothing, just made -/
theorem Mq.start {W : World} {L g kg n : Nat} {vs : List Value} {ls : List (List Int)} (h : W.ownsRow L 25 1 (.slice (some ⟨g, 0, none⟩) n kg) n vs) (hv : ∀ i, i < n → vs[i]? = some (.slice none 0 0)) (hl : ∀ i, i < n → ls.getD i [] = []) : Mq W L g kg n ls (fun _ => none) (fun _ => 0) :=
  ⟨⟨vs, h, fun i hi => by rw [hl i hi]; exact hv i hi⟩, fun i hi => by rw [hl i hi]; exact ⟨rfl, .inl ⟨rfl, rfl⟩⟩, fun i hi p hp => (by cases hp), fun i j hi hj p q hp => (by cases hp)⟩
/-- a row is written anew, in its own block -/
theorem Mq.rowTo {W W' : World} {L g kg n : Nat} {ls ls' : List (List Int)} {A : Nat → Option Addr} {K : Nat → Nat} (h : Mq W L g kg n ls A K) (i : Nat) (hi : i < n) {x : List Int} (hx : x.length = (ls.getD i []).length) (hg : W.grownBy W' (blk (A i) (ls.getD i []))) (ho : OwnA L W' (A i) (K i) x) (hl : ∀ q, q < n → ls'.getD q [] = if q = i then x else ls.getD q []) : Mq W' L g kg n ls' A K := by
  obtain ⟨vs, h1, h2⟩ := h.top
  have kp : Kp (fun b => blk (A i) (ls.getD i []) = some b) W W' := Kp.grown hg (fun g e => e)
  have hb : ∀ b, blk (A i) (ls.getD i []) = some b → ∃ p : Addr, A i = some p ∧ p.block = b := by
    intro b hb
    unfold blk at hb
    split at hb
    · cases hb
    · cases hA : A i with
      | none => rw [hA] at hb; cases hb
      | some p => rw [hA] at hb; exact ⟨p, rfl, by simpa using hb⟩
  refine ⟨⟨vs, ownsRowKeep h1 kp (fun e => by obtain ⟨p, hp, e2⟩ := hb g e; exact h.ne i hi p hp e2), fun q hq => ?_⟩, fun q hq => ?_, h.ne, h.inj⟩
  · rw [hl q hq, h2 q hq]
    by_cases e : q = i
    · subst e; rw [if_pos rfl, hx]
    · rw [if_neg e]
  · rw [hl q hq]
    by_cases e : q = i
    · subst e
      rw [if_pos rfl]
      rcases ho with e | ⟨g', hg', ho⟩
      · have e3 : ls.getD q [] = [] := List.length_eq_zero_iff.1 (by rw [← hx, e]; rfl)
        have h3 := (h.row q hq).keep kp (fun p hp e4 => by rw [e3] at e4; unfold blk at e4; simp at e4)
        rw [e3] at h3; rw [e]; exact h3
      · rw [hg']; exact ho.owr
    · rw [if_neg e]
      exact (h.row q hq).keep kp (fun p hp e2 => by obtain ⟨r, hr, e3⟩ := hb _ e2; exact e (h.inj q i hq hi p r hp hr e3.symm))

set_option maxRecDepth 100000 in
set_option maxHeartbeats 3200000 in
theorem markMq (L g kg : Nat) (ls : List (List Int)) (A : Nat → Option Addr) (K : Nat → Nat) (k0 : Nat) (q : Int) (cap : Nat) (w : World) (hq : (k0 : Int) = q) (h : Mq w L g kg ls.length ls A K) (hs : mSz ls ≤ 1048576) (hk0 : k0 ≤ 8388608) :
    Calls Tryz.prog 29 #[.slice (some ⟨g, 0, none⟩) ls.length cap, .int .i64 q] w fun e w' => e = .returned (.int .i64 (q + (lenK ls ls.length : Int))) ∧ Mq w' L g kg ls.length (mkR ls k0 ls.length) A K ∧ Kp (fun b => L ≤ b) w w' := by
  subst hq
  have hll : ls.length ≤ 1048576 := by unfold mSz at hs; omega
  have HT : Hid (lenK ls ls.length ≤ 1048576) := by show _ ≤ _; unfold mSz at hs; omega
  have HM0 : Hid (Mq w L g kg ls.length (mkR ls k0 0) A K) := Mq.congr h (fun q hq => by rw [mkR_get hq]; simp)
  have HR := fun i => Lib.hid (mSz_row (i := i) hs)
  clear hs h
  go_enter Tryz.func29, Tryz.ntmps29
  go_wp2_with fail
  go_loopw [1, 5] (fun q i wr => ∃ k : Nat, k ≤ ls.length ∧ i = .int .i64 k ∧ q = .int .i64 ((k0 + lenK ls k : Nat) : Int) ∧ Hid (Mq wr L g kg ls.length (mkR ls k0 k) A K) ∧ Hid (Kp (fun b => L ≤ b) w wr)) (fun _ i _ => ls.length - (intOf i).toNat)
  case atStart => exact ⟨0, Nat.zero_le _, rfl, by simp [lenK], HM0, Kp.refl _ _⟩
  case round =>
    obtain ⟨k, hk, rfl, rfl, HM, HK⟩ := hrel
    clear HM0
    by_cases hlt : k < ls.length
    · have hii : (k : Int) < (ls.length : Int) := by omega
      have hr := HM.out.row k hlt
      have c0 := HM.out.cell k hlt
      rw [mkR_get hlt, if_neg (Nat.lt_irrefl _)] at hr c0
      have HC := Lib.hid (markAt L (A k) (K k) (ls.getD k []) (k0 + lenK ls k) _ wr rfl hr.a (HR k).out (by have := lenK_le hk; have := HT.out; omega))
      have HRB := Lib.hid (fun p => hr.blk p)
      clear HR hr
      generalize hx : ls.getD k [] = x at c0 HC HRB
      have HX := Lib.hid hx
      clear hx
      have HLT := Lib.hid hlt
      go_wp2_with fail
      refine HC.out.mono ?_; rintro e w2 ⟨rfl, ho, hg⟩
      have HN : Hid (Mq w2 L g kg ls.length (mkR ls k0 (k + 1)) A K) := HM.out.rowTo k hlt (x := marks x.length (k0 + lenK ls k)) (by rw [marks_len, mkR_rowlen hlt, HX.out]) (by rw [mkR_get hlt, if_neg (Nat.lt_irrefl _), HX.out]; exact hg) ho (fun q hq => by
        rw [mkR_get hq, mkR_get hq]
        by_cases e : q = k
        · subst e; rw [if_pos (by omega), if_pos rfl, HX.out]
        · have e2 : q < k + 1 ↔ q < k := by omega
          simp only [e2, e, if_false])
      have HKN : Hid (Kp (fun b => L ≤ b) w w2) := HK.out.trans (Kp.grown hg (fun g' e => by
        unfold blk at e
        split at e
        · cases e
        · cases hA : A k with
          | none => rw [hA] at e; cases e
          | some p => rw [hA] at e; have h9 : p.block = g' := by simpa using e
                      rw [← h9]; exact (HRB.out p hA).1))
      have HQ : Hid ((((k0 + lenK ls k : Nat) : Int) + (x.length : Int)) = ((k0 + lenK ls (k + 1) : Nat) : Int)) := by show _ = _; rw [lenK, HX.out]; push_cast; omega
      clear ho hg HM HK HC c0 HX HRB
      rw [HQ.out]
      go_wp2_with fail
      go_roundw
      case rel => exact ⟨k + 1, by omega, by go_num, rfl, HN, HKN⟩
      case measure => simp [intOf]; omega
    · have hii : ¬ (k : Int) < (ls.length : Int) := by omega
      obtain rfl : k = ls.length := by omega
      go_wp2_with fail
      go_ret
      exact ⟨rfl, HM.out, HK.out⟩
/-- an answer of such rows, or of none -/
def MqA (w : World) (L : Nat) (a : Option Addr) (ca : Nat) (ls : List (List Int)) : Prop := ls = [] ∨ ∃ g A K, a = some ⟨g, 0, none⟩ ∧ Mq w L g ca ls.length ls A K
theorem MqA.mat {w : World} {L : Nat} {a : Option Addr} {ca : Nat} {ls : List (List Int)} (h : MqA w L a ca ls) : Mat w a ls := by
  rcases h with h | ⟨g, A, K, rfl, h⟩
  · exact .inl h
  · exact h.mat rfl
theorem MqA.next {w w' : World} {L : Nat} {a : Option Addr} {ca : Nat} {ls : List (List Int)} (h : MqA w L a ca ls) (hb : Below w.heap.size w w') : MqA w' L a ca ls := h.imp id (fun ⟨g, A, K, e, h⟩ => ⟨g, A, K, e, h.next hb⟩)
theorem MqA.mono {w : World} {L L' : Nat} {a : Option Addr} {ca : Nat} {ls : List (List Int)} (h : MqA w L a ca ls) (hL : L' ≤ L) : MqA w L' a ca ls := h.imp id (fun ⟨g, A, K, e, h⟩ => ⟨g, A, K, e, h.mono hL⟩)
theorem MqA.keep {S : Nat → Prop} {w w' : World} {L : Nat} {a : Option Addr} {ca : Nat} {ls : List (List Int)} (h : MqA w L a ca ls) (k : Kp S w w') (hS : ∀ b, S b → b < L) : MqA w' L a ca ls := h.imp id (fun ⟨g, A, K, e, h⟩ => ⟨g, A, K, e, h.keepB k hS⟩)
set_option maxRecDepth 100000 in
set_option maxHeartbeats 1600000 in
theorem markNoQ (a : Option Addr) (cap : Nat) (z : Int) (w : World) :
    Calls Tryz.prog 29 #[.slice a 0 cap, .int .i64 z] w fun e w' => e = .returned (.int .i64 z) ∧ w = w' := by
  go_enter Tryz.func29, Tryz.ntmps29
  go_wp2_with fail
  go_loopw [1, 5] (fun q i wr => i = .int .i64 0 ∧ q = .int .i64 z ∧ w = wr) (fun _ _ _ => 0)
  case atStart => exact ⟨rfl, rfl, rfl⟩
  case round =>
    obtain ⟨rfl, rfl, rfl⟩ := hrel
    go_wp2_with fail
    go_ret
    exact ⟨rfl, rfl⟩
theorem markMqA {w : World} {L : Nat} {a : Option Addr} {ca : Nat} {ls : List (List Int)} (h : MqA w L a ca ls) (k0 : Nat) (q : Int) (hq : (k0 : Int) = q) (hs : mSz ls ≤ 1048576) (hk0 : k0 ≤ 8388608) :
    Calls Tryz.prog 29 #[.slice a ls.length ca, .int .i64 q] w fun e w' => e = .returned (.int .i64 (q + (lenK ls ls.length : Int))) ∧ MqA w' L a ca (mkR ls k0 ls.length) ∧ Kp (fun b => L ≤ b) w w' := by
  rcases h with rfl | ⟨g, A, K, rfl, h⟩
  · refine (markNoQ a ca q w).mono ?_
    rintro e w' ⟨rfl, rfl⟩
    exact ⟨by simp [lenK], .inl rfl, Kp.refl _ _⟩
  · refine (markMq L g ca ls A K k0 q ca w hq h hs hk0).mono ?_
    rintro e w' ⟨rfl, h2, h3⟩
    exact ⟨rfl, .inr ⟨g, A, K, rfl, by rw [mkR_len]; exact h2⟩, h3⟩

end Go.Proofs.YtoedccgiahegnaaGreat
