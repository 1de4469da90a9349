/- Sums of series. The program's sum of two series. Two series of one order, or what is wrong with them; the sum of two series. The model's product of two series. The program's product of two series. The product, behind the checks. MulSeries, by the model and by the program. The model's quotient of two series. The program's quotient of two series. The quotient, behind the checks. DivSeries, by the model and by the program. The model's composition of two series. The program's composition of two series, behind the checks. ComposeSeries, by the model and by the program. -/
import Derived.StillTactics
import Derived.WalkSpells
import Derived.Laws.Pointers
import Derived.Deep.RegionHeld3
import Derived.Deep.AppendLies
import Derived.Deep.DrawnRows
import Derived.KernelRfl
import Derived.StillTailTactics
import Derived.Laws.EntriesVeiled
import Derived.Test.YtldbhhocoolloaaGreatBase
namespace Go.Proofs.YtldbhhocoolloaaGreat
open Go.RowKit
attribute [local go_sem ↓] Go.wp_at_zero Go.wp_at_succ

theorem flip {P : Program} {f : FuncId} {args : Array Value} {w : World} {v : Value}
    (h : Calls P f args w fun e w' => e = .returned v ∧ w = w') : Calls P f args w fun e w'' => e = .returned v ∧ w'' = w :=
  h.mono fun _ _ ⟨he, hm⟩ => ⟨he, hm.symm⟩

theorem own_appended {B : Nat} {w : World} {g cap : Nat} {xs : List Int} {x : Int} (h : w.ownsRow B 2 1 (.slice (some ⟨g, 0, none⟩) (xs.length + 1) cap) (xs.length + 1) (xs.map (Value.int .i64) ++ [Value.int .i64 x])) :
    Own B w g cap (xs ++ [x]) := by
  unfold Own
  rw [List.length_append, List.map_append]
  exact h
theorem own_none (w : World) (B : Nat) (hB : B ≤ w.heap.size) : Own B (w.alloc (.cells #[] 2)) w.heap.size 0 [] := by
  unfold Own
  exact World.ownsRow_made w #[] 0 hB (by unfold maxLen; omega) rfl

theorem ret_slice {a : Option Addr} {n m c : Nat} (h : n = m) : Ending.returned (.slice a n c) = .returned (.slice a m c) := by rw [h]

set_option maxRecDepth 100000 in
set_option maxHeartbeats 3200000 in
theorem sAdd (a b : Option Addr) (ca cb : Nat) (l m : List Int) (w : World) (ha : At w a l) (hb : At w b m) (hr : Rng l) (hr2 : Rng m) (hlm : Hid (m.length = l.length)) (hl : l.length ≤ 1048576) :
    Calls Tryz.prog 80 #[.slice a l.length ca, .slice b m.length cb] w (Fresh w (addl l m)) := by
  obtain ⟨i0, hi, hz0, hz1, hz2⟩ := info_parts info64
  have hB0 := (Below.refl w.heap.size w).alloc (Nat.le_refl _) (.cells #[] 2)
  have hO0 := own_none w w.heap.size (Nat.le_refl _)
  go_enter Tryz.func80, Tryz.ntmps80
  go_wp2
  go_loopw [5, 6] (fun v i wr => ∃ (k g cap : Nat) (xs : List Int), k ≤ l.length ∧ i = .int .i64 k ∧ v = .slice (some ⟨g, 0, none⟩) xs.length cap ∧ Hid (xs = tab (fun k => pls (l.getD k 0) (m.getD k 0)) k) ∧ Own w.heap.size wr g cap xs ∧ Below w.heap.size w wr) (fun _ i _ => l.length - (intOf i).toNat)
  case atStart => exact ⟨0, w.heap.size, 0, [], Nat.zero_le _, rfl, rfl, rfl, hO0, hB0⟩
  case round =>
    obtain ⟨k, g, cap, xs, hk, rfl, rfl, hxs, ho, hw⟩ := hrel
    by_cases hlt : k < l.length
    · obtain ⟨b1, o1, rfl, hbl1, hc1⟩ := (ha.resolve_left (by intro e; rw [e] at hlt; simp at hlt))
      have hlt2 : k < m.length := by have := hlm.out; omega
      obtain ⟨b2, o2, rfl, hbl2, hc2⟩ := (hb.resolve_left (by intro e; rw [e] at hlt2; simp at hlt2))
      have h1 : wr.cell? ⟨b1, o1 + k, none⟩ = some (.int .i64 (l.getD k 0)) := (hw.cell (p := ⟨b1, o1 + k, none⟩) hbl1).trans (hc1 k hlt)
      have h2 : wr.cell? ⟨b2, o2 + k, none⟩ = some (.int .i64 (m.getD k 0)) := (hw.cell (p := ⟨b2, o2 + k, none⟩) hbl2).trans (hc2 k hlt2)
      have hxl : xs.length ≤ k := by rw [hxs.out, tab_len]; exact Nat.le_refl _
      have r1 := hr.at k
      have r2 := hr2.at k
      have hs2 : Hid (xs ++ [pls (l.getD k 0) (m.getD k 0)] = tab (fun k => pls (l.getD k 0) (m.getD k 0)) (k + 1)) := by rw [tab_succ, hxs.out]; rfl
      clear hc1 hc2 ha hb hxs hB0 hO0
      have hi1 : (k : Int) < (l.length : Int) := by omega
      have hi2 : (k : Int) < (m.length : Int) := by omega
      generalize l.getD k 0 = x at h1 r1 hs2
      generalize m.getD k 0 = y at h2 r2 hs2
      have ho2 : wr.ownsRow w.heap.size 2 1 (.slice (some ⟨g, 0, none⟩) xs.length cap) xs.length (xs.map (Value.int .i64)) := ho
      have hsz := hw.size
      have hgl := ho.base
      go_wp2
      go_region_held3 (fun w' => w'.cell? ⟨b1, o1 + k, none⟩ = some (.int .i64 x) ∧ w'.cell? ⟨b2, o2 + k, none⟩ = some (.int .i64 y))
        (first
          | go_keep
          | (go_split_ands
             refine ⟨?_, ?_⟩
             · (rw [hgrow.cell_far _ (by simp; omega) (by simp [Value.ownBlock]; omega)]; assumption)
             · (rw [hgrow.cell_far _ (by simp; omega) (by simp [Value.ownBlock]; omega)]; assumption)))
        (first | ((refine step_append_lies _ (by rfl) _ _ _ (by rfl) w.heap.size 2 i0 _ 1 8 Tryz.underlying25 hi hz0 hz1 hz2 rfl (by omega) (.slice (some ⟨g, 0, none⟩) xs.length cap) xs.length (xs.map (Value.int .i64)) (by rfl) ((ho2.alloc _).drew) ⟨wr.heap.size, 0, none⟩ 1 1 [.int .i64 (pls x y)] (by rfl) (by rfl) (World.news_of_block (cs := #[.int .i64 (pls x y)]) (t := 2) (fr := (0, 0)) (heap_alloc_new wr _)) (by simp [Value.oneCell']) (by omega) (by unfold maxLen; omega) (by omega) (by simp; omega) (wr.heap.size + 1) (by simp) ?_; intro gg cc w1 hown1 hgrow hat hlt1)) | (go_at_call 107; refine (sPlus x y r1 r2 _).mono ?_; rintro e w' ⟨rfl, rfl⟩))
      have hw2 : Below w.heap.size w w1 := ((hw.alloc hsz (.cells #[.int .i64 (pls x y)] 2)).drew).grown hgrow (by simp; omega) (by intro q hq; simp [Value.ownBlock] at hq; omega)
      have ho3 := own_appended hown1
      clear hgrow hown1 ho2
      go_wp2
      go_roundw
      case rel => exact ⟨k + 1, gg, cc, xs ++ [pls x y], by omega, by go_num, by simp, hs2, ho3, hw2⟩
      case measure => simp [intOf]; omega
    · have hkk : k = l.length := by omega
      subst hkk
      go_wp2
      go_ret
      exact ⟨g, cap, ret_slice (by rw [hxs.out, tab_len, addl_len]), by rw [show addl l m = xs from hxs.out.symm]; exact ho, hw⟩

end Go.Proofs.YtldbhhocoolloaaGreat

namespace Go.Proofs.YtldbhhocoolloaaGreat
open Go.RowKit

/-- The call answers a slice of its own that reads as l, and a code; nothing that was there has turned. -/
def Fresh2 (w : World) (l : List Int) (c : Int) (e : Ending) (w' : World) : Prop :=
  ∃ g cap, e = .returned (.tuple #[.slice (some ⟨g, 0, none⟩) l.length cap, .int .i64 c]) ∧ Own w.heap.size w' g cap l ∧ Below w.heap.size w w'

theorem ret_slice2 {a : Option Addr} {n m c : Nat} {z : Int} (h : n = m) : Ending.returned (.tuple #[.slice a n c, .int .i64 z]) = .returned (.tuple #[.slice a m c, .int .i64 z]) := by rw [h]

set_option maxRecDepth 100000 in
set_option maxHeartbeats 3200000 in
theorem iadd (a b : Option Addr) (ca cb : Nat) (l m : List Int) (w : World) (ha : At w a l) (hb : At w b m) (hr : Rng l) (hr2 : Rng m) (hlm : Hid (m.length = l.length)) (hl : l.length ≤ 1048576) :
    Calls Tryz.prog 224 #[.slice a l.length ca, .slice b m.length cb] w (Fresh2 w (addl l m) 0) := by
  obtain ⟨i0, hi, hz0, hz1, hz2⟩ := info_parts info64
  go_enter Tryz.func224, Tryz.ntmps224
  go_wp2_with (refine wpList_make_full _ rfl _ _ 98 rfl w.heap.size 2 i0 (.int .i64 0) 1 Tryz.underlying98 hi hz0 hz1 .i64 .i64 _ _ l.length rfl rfl rfl rfl ?c2 ?c3 (Nat.le_refl _) ?_)
  case c2 => rw [hz2]; omega
  case c3 => unfold maxLen; omega
  intro w1 ho1 hg1
  have hb1 := (Below.refl w.heap.size w).grown hg1 (Nat.le_refl _) (by intro k hk; cases hk)
  have ho2 := made_own ho1
  clear ho1 hg1 hi hz0 hz1 hz2
  go_wp2
  go_loopw [7, 13] (fun _ i wr => ∃ (k : Nat) (xs : List Int), k ≤ l.length ∧ i = .int .i64 k ∧ xs.length = k ∧ Hid (xs = tab (fun k => pls (l.getD k 0) (m.getD k 0)) k) ∧ Own w.heap.size wr w.heap.size l.length (fillz l.length xs) ∧ Below w.heap.size w wr) (fun _ i _ => l.length - (intOf i).toNat)
  case atStart => exact ⟨0, [], Nat.zero_le _, rfl, rfl, rfl, ho2, hb1⟩
  case round =>
    obtain ⟨k, xs, hk, rfl, hxl, hxs, ho, hw⟩ := hrel
    by_cases hlt : k < l.length
    · obtain ⟨b1, o1, rfl, hbl1, hc1⟩ := (ha.resolve_left (by intro e; rw [e] at hlt; simp at hlt))
      have hlt2 : k < m.length := by have := hlm.out; omega
      obtain ⟨b2, o2, rfl, hbl2, hc2⟩ := (hb.resolve_left (by intro e; rw [e] at hlt2; simp at hlt2))
      have h1 : wr.cell? ⟨b1, o1 + k, none⟩ = some (.int .i64 (l.getD k 0)) := (hw.cell (p := ⟨b1, o1 + k, none⟩) hbl1).trans (hc1 k hlt)
      have h2 : wr.cell? ⟨b2, o2 + k, none⟩ = some (.int .i64 (m.getD k 0)) := (hw.cell (p := ⟨b2, o2 + k, none⟩) hbl2).trans (hc2 k hlt2)
      have r1 := hr.at k
      have r2 := hr2.at k
      have hs2 : Hid (xs ++ [pls (l.getD k 0) (m.getD k 0)] = tab (fun k => pls (l.getD k 0) (m.getD k 0)) (k + 1)) := by rw [tab_succ, hxs.out]; rfl
      have hcs := ho.cellAt k (by rw [fillz_len (by omega)]; exact hlt)
      have hfr := ho.frz k
      have hset := ho.set k (pls (l.getD k 0) (m.getD k 0))
      rw [show (fillz l.length xs).set k (pls (l.getD k 0) (m.getD k 0)) = fillz l.length (xs ++ [pls (l.getD k 0) (m.getD k 0)]) from by
        have := fillz_set (n := l.length) (xs := xs) (by omega) (pls (l.getD k 0) (m.getD k 0)); rw [hxl] at this; exact this] at hset
      have hb2 := hw.setCell (p := ⟨w.heap.size, k, none⟩) (Nat.le_refl _) (.int .i64 (pls (l.getD k 0) (m.getD k 0)))
      have hl2 : Hid ((xs ++ [pls (l.getD k 0) (m.getD k 0)]).length = k + 1) := by show _ = _; simp [hxl]
      clear hc1 hc2 ha hb hxs ho ho2 hb1 hxl
      have hi1 : (k : Int) < (l.length : Int) := by omega
      have hi2 : (k : Int) < (m.length : Int) := by omega
      generalize l.getD k 0 = x at h1 r1 hs2 hset hb2 hl2
      generalize m.getD k 0 = y at h2 r2 hs2 hset hb2 hl2
      generalize (fillz l.length xs).getD k 0 = z at hcs
      go_wp2
      refine wp_region_still_tail 12 (by kernel_rfl) (by kernel_rfl) ?_
      simp only [List.take_succ_cons, List.take_zero, List.drop_succ_cons, List.drop_zero]
      repeat still_step
      still_call (flip (iPlus x y r1 r2 _))
      repeat still_step
      refine wpStill_nil ?_
      change wpList _ _ _ _ _ wr.drew
      go_wp2
      go_roundw
      case rel => exact ⟨k + 1, xs ++ [pls x y], by omega, by go_num, hl2.out, hs2, hset, hb2.drew⟩
      case measure => simp [intOf]; omega
    · have hkk : k = l.length := by omega
      subst hkk
      have hfin := Lib.hid (show fillz l.length xs = addl l m by rw [fillz_full hxl]; exact hxs.out)
      clear hxl
      go_wp2
      go_ret2
      exact ⟨_, l.length, ret_slice2 (addl_len l m).symm, by rw [hfin.out] at ho; exact ho, hw⟩

end Go.Proofs.YtldbhhocoolloaaGreat

namespace Go.Proofs.YtldbhhocoolloaaGreat
open Go.RowKit

def two (l m : List Int) : Int := if okS l = true ∧ okS m = true then (if l.length = m.length then 0 else 2) else 1
theorem two_bad1 {l m : List Int} (h : okS l = false) : two l m = 1 := by unfold two; rw [if_neg (by rw [h]; simp)]
theorem two_bad2 {l m : List Int} (h : okS m = false) : two l m = 1 := by unfold two; rw [if_neg (by rw [h]; simp)]
theorem two_len {l m : List Int} (h1 : okS l = true) (h2 : okS m = true) (h : l.length ≠ m.length) : two l m = 2 := by unfold two; rw [if_pos ⟨h1, h2⟩, if_neg h]
theorem two_ok {l m : List Int} (h1 : okS l = true) (h2 : okS m = true) (h : l.length = m.length) : two l m = 0 := by unfold two; rw [if_pos ⟨h1, h2⟩, if_pos h]

/-- The call answers a slice of its own, or one that holds nothing, that reads as l, and a code; nothing that was there has turned. -/
def Res2 (w : World) (l : List Int) (c : Int) (e : Ending) (w' : World) : Prop :=
  ∃ a cap, e = .returned (.tuple #[.slice a l.length cap, .int .i64 c]) ∧ OwnA w.heap.size w' a cap l ∧ Below w.heap.size w w'

theorem res2_of_fresh {w w1 : World} {l l' : List Int} {c c' : Int} {e : Ending} (hl : l = l') (hc : c = c') (h : Fresh2 w l c e w1) : Res2 w l' c' e w1 := by
  subst hl; subst hc
  obtain ⟨g, cap, he, ho, hb⟩ := h
  exact ⟨_, cap, he, ho.a, hb⟩

theorem At.alloc {w : World} {a : Option Addr} {l : List Int} (h : At w a l) (o : Obj) : At (w.alloc o) a l := h.below ((Below.refl _ _).alloc (Nat.le_refl _) o) (Nat.le_refl _)
theorem res2_alloc {w w1 : World} {o : Obj} {l : List Int} {c : Int} {e : Ending} (h : Res2 (w.alloc o) l c e w1) : Res2 w l c e w1 := by
  obtain ⟨a, cap, he, ho, hb⟩ := h
  have hs : w.heap.size ≤ (w.alloc o).heap.size := by simp
  refine ⟨a, cap, he, ?_, ((Below.refl _ _).alloc (Nat.le_refl _) o).trans (hb.mono hs)⟩
  rcases ho with h | ⟨g, h1, h2⟩
  · exact .inl h
  · exact .inr ⟨g, h1, h2.mono hs⟩

/-- What an operation on two series of one order gives, if there is nothing wrong with them. -/
def ifTwo (l m r : List Int) : List Int := if two l m = 0 then r else []
theorem two_cases (l m : List Int) : (two l m = 0 ∧ okS l = true ∧ okS m = true ∧ l.length = m.length) ∨ (two l m = 1 ∧ (okS l = false ∨ okS l = true ∧ okS m = false)) ∨ (two l m = 2 ∧ okS l = true ∧ okS m = true ∧ l.length ≠ m.length) := by
  cases h1 : okS l with
  | false => exact .inr (.inl ⟨two_bad1 h1, .inl rfl⟩)
  | true =>
    cases h2 : okS m with
    | false => exact .inr (.inl ⟨two_bad2 h2, .inr ⟨rfl, rfl⟩⟩)
    | true =>
      by_cases h : l.length = m.length
      · exact .inl ⟨two_ok h1 h2 h, rfl, rfl, h⟩
      · exact .inr (.inr ⟨two_len h1 h2 h, rfl, rfl, h⟩)

theorem ifTwo_len {l m r : List Int} {n : Nat} (h : r.length ≤ n) : (ifTwo l m r).length ≤ n := by
  unfold ifTwo; split
  · exact h
  · simp
theorem resLen_AddSeries (l m : List Int) (hl : l.length ≤ 1048576) (_ : m.length ≤ 1048576) : (ifTwo l m (addl l m)).length ≤ 1048576 := ifTwo_len (by rw [addl_len]; exact hl)

end Go.Proofs.YtldbhhocoolloaaGreat

namespace Go.Proofs.YtldbhhocoolloaaGreat
open Go.RowKit
attribute [local go_sem ↓] Go.wp_at_zero Go.wp_at_succ

set_option maxRecDepth 100000 in
set_option maxHeartbeats 6400000 in
theorem sMul (a b : Option Addr) (ca cb : Nat) (l m : List Int) (w : World) (ha : At w a l) (hb : At w b m) (hr : Rng l) (hr2 : Rng m) (hlm : Hid (m.length = l.length)) (hl : l.length ≤ 1048576) :
    Calls Tryz.prog 132 #[.slice a l.length ca, .slice b m.length cb] w (Fresh w (mull l m)) := by
  obtain ⟨i0, hi, hz0, hz1, hz2⟩ := info_parts info64
  have hB0 := (Below.refl w.heap.size w).alloc (Nat.le_refl _) (.cells #[] 2)
  have hO0 := own_none w w.heap.size (Nat.le_refl _)
  go_enter Tryz.func132, Tryz.ntmps132
  go_wp2
  go_loopw [5, 6, 7, 8] (fun v i _ _ wr => ∃ (k g cap : Nat) (xs : List Int), k ≤ l.length ∧ i = .int .i64 k ∧ v = .slice (some ⟨g, 0, none⟩) xs.length cap ∧ Hid (xs = tab (mulc l m) k) ∧ Own w.heap.size wr g cap xs ∧ Below w.heap.size w wr) (fun _ i _ _ _ => l.length - (intOf i).toNat)
  case atStart => exact ⟨0, w.heap.size, 0, [], Nat.zero_le _, rfl, rfl, rfl, hO0, hB0⟩
  case round =>
    obtain ⟨k, g, cap, xs, hk, rfl, rfl, hxs, ho, hw⟩ := hrel
    by_cases hlt : k < l.length
    · obtain ⟨b1, o1, rfl, hbl1, hc1⟩ := (ha.resolve_left (by intro e; rw [e] at hlt; simp at hlt))
      have hlt2 : k < m.length := by have := hlm.out; omega
      obtain ⟨b2, o2, rfl, hbl2, hc2⟩ := (hb.resolve_left (by intro e; rw [e] at hlt2; simp at hlt2))
      have HC1 := Lib.hid hc1
      have HC2 := Lib.hid hc2
      have hxl : xs.length ≤ k := by rw [hxs.out, tab_len]; exact Nat.le_refl _
      have hs2 : Hid (xs ++ [mulc l m k] = tab (mulc l m) (k + 1)) := by rw [tab_succ, hxs.out]; rfl
      clear hc1 hc2 ha hb hxs hB0 hO0
      go_wp2
      obtain ⟨wo, hwo⟩ : ∃ wo : World, wo = wr := ⟨_, rfl⟩
      rw [← hwo] at ho hw ⊢
      clear hwo
      go_loopw [7, 8] (fun q i wi => ∃ (j : Nat) (s : Int), j ≤ k + 1 ∧ i = .int .i64 j ∧ q = .int .i64 s ∧ Hid (s = psum (fun i => tms (l.getD i 0) (m.getD (k - i) 0)) j) ∧ Own w.heap.size wi g cap xs ∧ Below w.heap.size w wi) (fun _ i _ => k + 1 - (intOf i).toNat)
      case atStart => exact ⟨0, 0, Nat.zero_le _, rfl, rfl, rfl, ho, hw⟩
      case round =>
        obtain ⟨j, s, hj, rfl, rfl, hs, hoi, hwi⟩ := hrel
        by_cases hjl : j ≤ k
        · obtain ⟨d, hd⟩ : ∃ d : Nat, d = k - j := ⟨_, rfl⟩
          have h1 : wr.cell? ⟨b1, o1 + j, none⟩ = some (.int .i64 (l.getD j 0)) := (hwi.cell (p := ⟨b1, o1 + j, none⟩) hbl1).trans (HC1.out j (by omega))
          have h2 : wr.cell? ⟨b2, o2 + d, none⟩ = some (.int .i64 (m.getD d 0)) := (hwi.cell (p := ⟨b2, o2 + d, none⟩) hbl2).trans (HC2.out d (by omega))
          have hwrap : IntKind.i64.wrap ((k : Int) - (j : Int)) = (d : Int) := by rw [show ((k : Int) - (j : Int)) = (d : Int) from by omega]; exact IntWalk.i64_in _ (by omega)
          have hi1 : (j : Int) < (l.length : Int) := by omega
          have hi2 : (d : Int) < (m.length : Int) := by omega
          have r1 := hr.at j
          have r2 := hr2.at d
          have bs : 0 ≤ s ∧ s < 1000003 := by rw [hs.out]; exact psum_bd _ _
          have hs2' : Hid (pls s (tms (l.getD j 0) (m.getD d 0)) = psum (fun i => tms (l.getD i 0) (m.getD (k - i) 0)) (j + 1)) := by
            rw [hs.out, hd]; rfl
          have bt := tms_bd (l.getD j 0) (m.getD d 0)
          clear hs hd
          generalize l.getD j 0 = x at h1 r1 hs2' bt
          generalize m.getD d 0 = y at h2 r2 hs2' bt
          go_wp2
          go_quiet ((first | (go_at_call 70; exact quiet_same (sTimes x y r1 r2 _)) | (go_at_call 107; exact quiet_same (sPlus s (tms x y) (by omega) (by omega) _))))
          go_wp2
          go_roundw
          case rel => exact ⟨j + 1, _, by omega, by go_num, rfl, hs2', hoi, below_drewN hwi _⟩
          case measure => simp [intOf]; omega
        · have hjk : j = k + 1 := by omega
          subst hjk
          have hsm : Hid (s = mulc l m k) := hs.out
          have hs3 : Hid (xs ++ [s] = tab (mulc l m) (k + 1)) := by rw [hsm.out]; exact hs2.out
          have hsz := hwi.size
          have hgl := hoi.base
          clear hs hs2 ho hw hsm
          go_wp2_with (at_builtin; refine wpList_append_lies _ rfl _ _ _ rfl w.heap.size 2 i0 _ 1 8 Tryz.underlying25 hi hz0 hz1 hz2 rfl (by omega) (.slice (some ⟨g, 0, none⟩) xs.length cap) xs.length (xs.map (Value.int .i64)) rfl (hoi.alloc _) ⟨wr.heap.size, 0, none⟩ 1 1 [.int .i64 s] rfl rfl (World.news_of_block (cs := #[.int .i64 s]) (t := 2) (fr := (0, 0)) (heap_alloc_new wr _)) (by simp [Value.oneCell']) (by omega) (by unfold maxLen; omega) (by omega) (by simp; omega) (wr.heap.size + 1) (by simp) ?_; intro gg cc w1 hown1 hgrow hat hlt1)
          have hw2 : Below w.heap.size w w1 := (hwi.alloc hsz (.cells #[.int .i64 s] 2)).grown hgrow (by simp; omega) (by intro q hq; simp [Value.ownBlock] at hq; omega)
          have ho3 := own_appended hown1
          clear hgrow hown1 hoi hwi
          go_wp2
          go_roundw
          case rel => exact ⟨k + 1, gg, cc, xs ++ [s], by omega, by go_num, by simp, hs3, ho3, hw2⟩
          case measure => simp [intOf]; omega
    · have hkk : k = l.length := by omega
      subst hkk
      go_wp2
      go_ret
      exact ⟨g, cap, ret_slice (by rw [hxs.out, tab_len, mull_len]), by rw [show mull l m = xs from hxs.out.symm]; exact ho, hw⟩

end Go.Proofs.YtldbhhocoolloaaGreat

namespace Go.Proofs.YtldbhhocoolloaaGreat
open Go.RowKit

set_option maxRecDepth 100000 in
set_option maxHeartbeats 6400000 in
theorem iproduct (a b : Option Addr) (ca cb : Nat) (l m : List Int) (w : World) (ha : At w a l) (hb : At w b m) (hr : Rng l) (hr2 : Rng m) (hlm : Hid (m.length = l.length)) (hl : l.length ≤ 1048576) :
    Calls Tryz.prog 221 #[.slice a l.length ca, .slice b m.length cb] w (Fresh w (mull l m)) := by
  obtain ⟨i0, hi, hz0, hz1, hz2⟩ := info_parts info64
  go_enter Tryz.func221, Tryz.ntmps221
  go_wp2_with (refine wpList_make_full _ rfl _ _ 98 rfl w.heap.size 2 i0 (.int .i64 0) 1 Tryz.underlying98 hi hz0 hz1 .i64 .i64 _ _ l.length rfl rfl rfl rfl ?c2 ?c3 (Nat.le_refl _) ?_)
  case c2 => rw [hz2]; omega
  case c3 => unfold maxLen; omega
  intro w1 ho1 hg1
  have hb1 := (Below.refl w.heap.size w).grown hg1 (Nat.le_refl _) (by intro k hk; cases hk)
  have ho2 := made_own ho1
  clear ho1 hg1 hi hz0 hz1 hz2
  go_wp2
  go_loopw [6, 7, 13] (fun _ _ i wr => ∃ (k : Nat) (xs : List Int), k ≤ l.length ∧ i = .int .i64 k ∧ xs.length = k ∧ Hid (xs = tab (mulc l m) k) ∧ Own w.heap.size wr w.heap.size l.length (fillz l.length xs) ∧ Below w.heap.size w wr) (fun _ _ i _ => l.length - (intOf i).toNat)
  case atStart => exact ⟨0, [], Nat.zero_le _, rfl, rfl, rfl, ho2, hb1⟩
  case round =>
    obtain ⟨k, xs, hk, rfl, hxl, hxs, ho, hw⟩ := hrel
    by_cases hlt : k < l.length
    · obtain ⟨b1, o1, rfl, hbl1, hc1⟩ := (ha.resolve_left (by intro e; rw [e] at hlt; simp at hlt))
      have hlt2 : k < m.length := by have := hlm.out; omega
      obtain ⟨b2, o2, rfl, hbl2, hc2⟩ := (hb.resolve_left (by intro e; rw [e] at hlt2; simp at hlt2))
      have HC1 := Lib.hid hc1
      have HC2 := Lib.hid hc2
      have hs2 : Hid (xs ++ [mulc l m k] = tab (mulc l m) (k + 1)) := by rw [tab_succ, hxs.out]; rfl
      rw [fillz_snoc0 (by omega)] at ho
      have HX := Lib.hid hxl
      clear hc1 hc2 ha hb hxs ho2 hb1 hxl
      go_wp2
      obtain ⟨wo, hwo⟩ : ∃ wo : World, wo = wr := ⟨_, rfl⟩
      rw [← hwo] at ho hw ⊢
      clear hwo
      go_loopw [7] (fun i wi => ∃ (j : Nat) (s : Int), j ≤ k + 1 ∧ i = .int .i64 j ∧ Hid (s = psum (fun i => tms (l.getD i 0) (m.getD (k - i) 0)) j) ∧ Own w.heap.size wi w.heap.size l.length (fillz l.length (xs ++ [s])) ∧ Below w.heap.size w wi) (fun i _ => k + 1 - (intOf i).toNat)
      case atStart => exact ⟨0, 0, Nat.zero_le _, rfl, rfl, ho, hw⟩
      case round =>
        obtain ⟨j, s, hj, rfl, hs, hoi, hwi⟩ := hrel
        by_cases hjl : j ≤ k
        · obtain ⟨d, hd⟩ : ∃ d : Nat, d = k - j := ⟨_, rfl⟩
          have h1 : wr.cell? ⟨b1, o1 + j, none⟩ = some (.int .i64 (l.getD j 0)) := (hwi.cell (p := ⟨b1, o1 + j, none⟩) hbl1).trans (HC1.out j (by omega))
          have h2 : wr.cell? ⟨b2, o2 + d, none⟩ = some (.int .i64 (m.getD d 0)) := (hwi.cell (p := ⟨b2, o2 + d, none⟩) hbl2).trans (HC2.out d (by omega))
          have hwrap : IntKind.i64.wrap ((k : Int) - (j : Int)) = (d : Int) := by rw [show ((k : Int) - (j : Int)) = (d : Int) from by omega]; exact IntWalk.i64_in _ (by omega)
          have hi1 : (j : Int) < (l.length : Int) := by omega
          have hi2 : (d : Int) < (m.length : Int) := by omega
          have hi3 : (k : Int) < (l.length : Int) := by omega
          have r1 := hr.at j
          have r2 := hr2.at d
          have bs : 0 ≤ s ∧ s < 1000003 := by rw [hs.out]; exact psum_bd _ _
          have hs2' : Hid (pls s (tms (l.getD j 0) (m.getD d 0)) = psum (fun i => tms (l.getD i 0) (m.getD (k - i) 0)) (j + 1)) := by
            rw [hs.out, hd]; rfl
          have bt := tms_bd (l.getD j 0) (m.getD d 0)
          have hcs := hoi.cellAt k (by rw [fillz_len (by simp [HX.out]; omega)]; exact hlt)
          rw [show (fillz l.length (xs ++ [s])).getD k 0 = s from by have := fillz_get (n := l.length) (xs := xs) s; rw [HX.out] at this; exact this] at hcs
          have hfr := hoi.frz k
          have hset := hoi.set k (pls s (tms (l.getD j 0) (m.getD d 0)))
          rw [show (fillz l.length (xs ++ [s])).set k (pls s (tms (l.getD j 0) (m.getD d 0))) = fillz l.length (xs ++ [pls s (tms (l.getD j 0) (m.getD d 0))]) from by have := fillz_reset (n := l.length) (xs := xs) s (pls s (tms (l.getD j 0) (m.getD d 0))); rw [HX.out] at this; exact this] at hset
          have hb2 := hwi.setCell (p := ⟨w.heap.size, k, none⟩) (Nat.le_refl _) (.int .i64 (pls s (tms (l.getD j 0) (m.getD d 0))))
          clear hs hd hoi ho hw
          generalize l.getD j 0 = x at h1 r1 hs2' bt hset hb2
          generalize m.getD d 0 = y at h2 r2 hs2' bt hset hb2
          go_wp2
          refine wp_region_still_tail 19 (by kernel_rfl) (by kernel_rfl) ?_
          simp only [List.take_succ_cons, List.take_zero, List.drop_succ_cons, List.drop_zero]
          repeat still_step
          still_call (flip (iTimes x y r1 r2 _))
          repeat still_step
          still_call (flip (iPlus s (tms x y) (by omega) (by omega) _))
          repeat still_step
          refine wpStill_nil ?_
          change wpList _ _ _ _ _ wr.drew
          go_wp2
          go_roundw
          case rel => exact ⟨j + 1, _, by omega, by go_num, hs2', hset, hb2.drew⟩
          case measure => simp [intOf]; omega
        · have hjk : j = k + 1 := by omega
          subst hjk
          have hsm : Hid (s = mulc l m k) := hs.out
          have hs3 : Hid (xs ++ [s] = tab (mulc l m) (k + 1)) := by rw [hsm.out]; exact hs2.out
          have hl2 : Hid ((xs ++ [s]).length = k + 1) := by show _ = _; simp [HX.out]
          clear hs hs2 ho hw hsm
          go_wp2
          go_roundw
          case rel => exact ⟨k + 1, xs ++ [s], by omega, by go_num, hl2.out, hs3, hoi, hwi⟩
          case measure => simp [intOf]; omega
    · have hkk : k = l.length := by omega
      subst hkk
      have hfin := Lib.hid (show fillz l.length xs = mull l m by rw [fillz_full hxl]; exact hxs.out)
      clear hxl
      go_wp2
      go_ret
      exact ⟨_, l.length, ret_slice (mull_len l m).symm, by rw [hfin.out] at ho; exact ho, hw⟩

end Go.Proofs.YtldbhhocoolloaaGreat

namespace Go.Proofs.YtldbhhocoolloaaGreat
open Go.RowKit

def resMul (l m : List Int) : List Int := mull l m
def codMul (_ _ : List Int) : Int := 0
def allMul (l m : List Int) : List Int := ifTwo l m (resMul l m)
def alcMul (l m : List Int) : Int := if two l m = 0 then codMul l m else two l m
theorem resMul_len (l m : List Int) : (resMul l m).length ≤ l.length := by unfold resMul; rw [mull_len]; exact Nat.le_refl _

theorem okS_rng {l : List Int} (h : Hid (okS l = true)) : Rng l ∧ l.length ≤ 1048576 ∧ 1 ≤ l.length ∧ l.length ≤ 13 ∧ Nums l := by
  have := okS_t h.out
  exact ⟨this.2.2.rng, by omega, this.1, this.2.1, this.2.2⟩

set_option maxHeartbeats 800000 in
theorem iMulR (a b : Option Addr) (ca cb : Nat) (l m : List Int) (w : World) (ha : At w a l) (hb : At w b m) (h1 : Hid (okS l = true)) (h2 : Hid (okS m = true)) (hlm : Hid (m.length = l.length)) :
    Calls Tryz.prog 225 #[.slice a l.length ca, .slice b m.length cb] w (Res2 w (resMul l m) (codMul l m)) := by
  go_enter Tryz.func225, Tryz.ntmps225
  go_wp2_with fail
  refine (iproduct a b ca cb l m _ ha hb (okS_rng h1).1 (okS_rng h2).1 hlm (okS_rng h1).2.1).mono ?_; rintro e w1 ⟨g, cap, rfl, ho, hbel⟩
  go_wp2_with fail
  go_ret2
  exact ⟨_, cap, rfl, ho.a, hbel⟩

end Go.Proofs.YtldbhhocoolloaaGreat

namespace Go.Proofs.YtldbhhocoolloaaGreat
open Go.RowKit
set_option linter.unusedVariables false

theorem resLen_MulSeries (l m : List Int) (hl : l.length ≤ 1048576) (_ : m.length ≤ 1048576) : (allMul l m).length ≤ 1048576 := ifTwo_len (Nat.le_trans (resMul_len l m) hl)

end Go.Proofs.YtldbhhocoolloaaGreat

namespace Go.Proofs.YtldbhhocoolloaaGreat
open Go.RowKit
attribute [local go_sem ↓] Go.wp_at_zero Go.wp_at_succ

set_option maxHeartbeats 400000 in
theorem sMinus (a b : Int) (ha : 0 ≤ a ∧ a < 1000003) (hb : 0 ≤ b ∧ b < 1000003) (w : World) :
    Calls Tryz.prog 157 #[.int .i64 a, .int .i64 b] w fun e w' => e = .returned (.int .i64 (mns a b)) ∧ w = w' := by
  go_enter Tryz.func157, Tryz.ntmps157
  go_wp2_with fail
  refine (sResidue _ (by omega) (by omega) _).mono ?_; rintro e w' ⟨rfl, rfl⟩
  go_wp2_with fail
  go_ret
  exact ⟨rfl, rfl⟩

set_option maxRecDepth 100000 in
set_option maxHeartbeats 6400000 in
theorem sDiv (a b : Option Addr) (ca cb : Nat) (l m : List Int) (w : World) (ha : At w a l) (hb : At w b m) (hr : Nums l) (hr2 : Nums m) (hlm : Hid (m.length = l.length)) (hl0 : 1 ≤ l.length) (hl : l.length ≤ 1048576) :
    Calls Tryz.prog 133 #[.slice a l.length ca, .slice b m.length cb] w (Fresh w (divl l m)) := by
  obtain ⟨i0, hi, hz0, hz1, hz2⟩ := info_parts info64
  have hB0 := (Below.refl w.heap.size w).alloc (Nat.le_refl _) (.cells #[] 2)
  have hO0 := own_none w w.heap.size (Nat.le_refl _)
  obtain ⟨b1, o1, rfl, hbl1, hc1⟩ := (ha.resolve_left (by intro e; rw [e] at hl0; simp at hl0))
  have hm0 : 1 ≤ m.length := by have := hlm.out; omega
  obtain ⟨b2, o2, rfl, hbl2, hc2⟩ := (hb.resolve_left (by intro e; rw [e] at hm0; simp at hm0))
  have hz : (w.alloc (.cells #[] 2)).cell? ⟨b2, o2, none⟩ = some (.int .i64 (m.getD 0 0)) := (hB0.cell (p := ⟨b2, o2, none⟩) hbl2).trans (by have := hc2 0 hm0; rwa [Nat.add_zero] at this)
  have hf0 := hr2.at 0
  have HC1 := Lib.hid hc1
  have HC2 := Lib.hid hc2
  have hmi : (0 : Int) < (m.length : Int) := by omega
  have hfin := Lib.hid (show dvs l m (inv (m.getD 0 0)) l.length = divl l m from rfl)
  clear hc1 hc2 ha hb
  generalize m.getD 0 0 = f0 at hz hf0 hfin
  have hfb := pwr_bd f0 1000001
  go_enter Tryz.func133, Tryz.ntmps133
  go_wp2_with fail
  refine (sinv f0 (by omega) _).mono ?_; rintro e w' ⟨rfl, rfl⟩
  go_wp2_with fail
  clear hz
  have hfb2 : 0 ≤ inv f0 ∧ inv f0 < 1000003 := hfb
  clear hfb
  generalize inv f0 = f at hfb2 hfin ⊢
  go_loopw [5, 7, 8, 9] (fun v i _ _ wr => ∃ (k g cap : Nat) (xs : List Int), k ≤ l.length ∧ i = .int .i64 k ∧ v = .slice (some ⟨g, 0, none⟩) xs.length cap ∧ Hid (xs = dvs l m f k) ∧ Own w.heap.size wr g cap xs ∧ Below w.heap.size w wr) (fun _ i _ _ _ => l.length - (intOf i).toNat)
  case atStart => exact ⟨0, w.heap.size, 0, [], Nat.zero_le _, rfl, rfl, rfl, hO0, hB0⟩
  case round =>
    obtain ⟨k, g, cap, xs, hk, rfl, rfl, hxs, ho, hw⟩ := hrel
    by_cases hlt : k < l.length
    · have hlt2 : k < m.length := by have := hlm.out; omega
      have hxl : Hid (xs.length = k) := by rw [hxs.out]; exact dvs_len _ _ _ _
      have hxn : Nums xs := by rw [hxs.out]; exact dvs_nms _ _ _ _
      have h1 : wr.cell? ⟨b1, o1 + k, none⟩ = some (.int .i64 (l.getD k 0)) := (hw.cell (p := ⟨b1, o1 + k, none⟩) hbl1).trans (HC1.out k hlt)
      have r1 := hr.at k
      obtain ⟨x0, hx0⟩ : ∃ x0, l.getD k 0 = x0 := ⟨_, rfl⟩
      rw [hx0] at h1 r1
      have HX0 := Lib.hid hx0
      clear hB0 hO0 hx0
      go_wp2
      obtain ⟨wo, hwo⟩ : ∃ wo : World, wo = wr := ⟨_, rfl⟩
      rw [← hwo] at ho hw ⊢
      clear hwo h1
      go_loopw [8, 9] (fun q i wi => ∃ (j : Nat) (s : Int), j ≤ k ∧ i = .int .i64 j ∧ q = .int .i64 s ∧ Hid (s = msub x0 (fun i => tms (xs.getD i 0) (m.getD (k - i) 0)) j) ∧ Own w.heap.size wi g cap xs ∧ Below w.heap.size w wi) (fun _ i _ => k - (intOf i).toNat)
      case atStart => exact ⟨0, x0, Nat.zero_le _, rfl, rfl, rfl, ho, hw⟩
      case round =>
        obtain ⟨j, s, hj, rfl, rfl, hs, hoi, hwi⟩ := hrel
        by_cases hjl : j < k
        · obtain ⟨d, hd⟩ : ∃ d : Nat, d = k - j := ⟨_, rfl⟩
          have h1 : wr.cell? ⟨g, j, none⟩ = some (.int .i64 (xs.getD j 0)) := hoi.cellAt j (by rw [hxl.out]; exact hjl)
          have h2 : wr.cell? ⟨b2, o2 + d, none⟩ = some (.int .i64 (m.getD d 0)) := (hwi.cell (p := ⟨b2, o2 + d, none⟩) hbl2).trans (HC2.out d (by omega))
          have hwrap : IntKind.i64.wrap ((k : Int) - (j : Int)) = (d : Int) := by rw [show ((k : Int) - (j : Int)) = (d : Int) from by omega]; exact IntWalk.i64_in _ (by omega)
          have hi1 : (j : Int) < (xs.length : Int) := by rw [hxl.out]; omega
          have hi2 : (d : Int) < (m.length : Int) := by omega
          have r1' := hxn.at j
          have r2 := hr2.at d
          have bs : 0 ≤ s ∧ s < 1000003 := by rw [hs.out]; exact msub_bd _ _ r1
          have hs2' : Hid (mns s (tms (xs.getD j 0) (m.getD d 0)) = msub x0 (fun i => tms (xs.getD i 0) (m.getD (k - i) 0)) (j + 1)) := by
            rw [hs.out, hd]; rfl
          have bt := tms_bd (xs.getD j 0) (m.getD d 0)
          clear hs hd
          generalize xs.getD j 0 = x at h1 r1' hs2' bt
          generalize m.getD d 0 = y at h2 r2 hs2' bt
          go_wp2
          go_quiet ((first | (go_at_call 70; exact quiet_same (sTimes x y (by omega) (by omega) _)) | (go_at_call 157; exact quiet_same (sMinus s (tms x y) (by omega) (by omega) _))))
          go_wp2
          go_roundw
          case rel => exact ⟨j + 1, _, by omega, by go_num, rfl, hs2', hoi, below_drewN hwi _⟩
          case measure => simp [intOf]; omega
        · have hjk : j = k := by omega
          subst hjk
          have bs : 0 ≤ s ∧ s < 1000003 := by rw [hs.out]; exact msub_bd _ _ r1
          have hs3 : Hid (xs ++ [tms s f] = dvs l m f (j + 1)) := by rw [dvs, ← hxs.out, hs.out, HX0.out]; rfl
          have hsz := hwi.size
          have hgl := hoi.base
          have hxl2 : xs.length ≤ 1048576 := by rw [hxl.out]; omega
          clear hs hxs ho hw
          go_wp2_with fail
          refine (sTimes s f (by omega) (by omega) _).mono ?_; rintro e w' ⟨rfl, rfl⟩
          generalize tms s f = s2 at hs3
          go_wp2_with (at_builtin; refine wpList_append_lies _ rfl _ _ _ rfl w.heap.size 2 i0 _ 1 8 Tryz.underlying25 hi hz0 hz1 hz2 rfl (by omega) (.slice (some ⟨g, 0, none⟩) xs.length cap) xs.length (xs.map (Value.int .i64)) rfl (hoi.alloc _) ⟨wr.heap.size, 0, none⟩ 1 1 [.int .i64 s2] rfl rfl (World.news_of_block (cs := #[.int .i64 s2]) (t := 2) (fr := (0, 0)) (heap_alloc_new wr _)) (by simp [Value.oneCell']) (by omega) (by unfold maxLen; omega) (by omega) (by simp; omega) (wr.heap.size + 1) (by simp) ?_; intro gg cc w1 hown1 hgrow hat hlt1)
          have hw2 : Below w.heap.size w w1 := (hwi.alloc hsz (.cells #[.int .i64 s2] 2)).grown hgrow (by simp; omega) (by intro q hq; simp [Value.ownBlock] at hq; omega)
          have ho3 := own_appended hown1
          clear hgrow hown1 hoi hwi
          go_wp2
          go_roundw
          case rel => exact ⟨j + 1, gg, cc, xs ++ [s2], by omega, by go_num, by simp, hs3, ho3, hw2⟩
          case measure => simp [intOf]; omega
    · have hkk : k = l.length := by omega
      subst hkk
      have hx2 := Lib.hid (hxs.out.trans hfin.out)
      clear hxs hfin
      go_wp2
      go_ret
      exact ⟨g, cap, ret_slice (by rw [hx2.out]), by rw [← hx2.out]; exact ho, hw⟩

end Go.Proofs.YtldbhhocoolloaaGreat

namespace Go.Proofs.YtldbhhocoolloaaGreat
open Go.RowKit

set_option maxRecDepth 100000 in
set_option maxHeartbeats 6400000 in
theorem iquotient (a b : Option Addr) (ca cb : Nat) (l m : List Int) (w : World) (ha : At w a l) (hb : At w b m) (hr : Nums l) (hr2 : Nums m) (hlm : Hid (m.length = l.length)) (hl0 : 1 ≤ l.length) (hl : l.length ≤ 1048576) :
    Calls Tryz.prog 148 #[.slice a l.length ca, .slice b m.length cb] w (Fresh w (divl l m)) := by
  obtain ⟨i0, hi, hz0, hz1, hz2⟩ := info_parts info64
  obtain ⟨b1, o1, rfl, hbl1, hc1⟩ := (ha.resolve_left (by intro e; rw [e] at hl0; simp at hl0))
  have hm0 : 1 ≤ m.length := by have := hlm.out; omega
  obtain ⟨b2, o2, rfl, hbl2, hc2⟩ := (hb.resolve_left (by intro e; rw [e] at hm0; simp at hm0))
  have hz : w.cell? ⟨b2, o2, none⟩ = some (.int .i64 (m.getD 0 0)) := by have := hc2 0 hm0; rwa [Nat.add_zero] at this
  have hf0 := hr2.at 0
  have HC1 := Lib.hid hc1
  have HC2 := Lib.hid hc2
  have hmi : (0 : Int) < (m.length : Int) := by omega
  have hfin := Lib.hid (show dvs l m (inv (m.getD 0 0)) l.length = divl l m from rfl)
  clear hc1 hc2 ha hb
  generalize m.getD 0 0 = f0 at hz hf0 hfin
  have hfb := pwr_bd f0 1000001
  go_enter Tryz.func148, Tryz.ntmps148
  go_wp2_with fail
  refine (iinv f0 (by omega) _).mono ?_; rintro e w' ⟨rfl, rfl⟩
  clear hz
  have hfb2 : 0 ≤ inv f0 ∧ inv f0 < 1000003 := hfb
  clear hfb
  generalize inv f0 = f at hfb2 hfin ⊢
  go_wp2_with (refine wpList_make_full _ rfl _ _ 98 rfl w.heap.size 2 i0 (.int .i64 0) 1 Tryz.underlying98 hi hz0 hz1 .i64 .i64 _ _ l.length rfl rfl rfl rfl ?c2 ?c3 (Nat.le_refl _) ?_)
  case c2 => rw [hz2]; omega
  case c3 => unfold maxLen; omega
  intro w1 ho1 hg1
  have hb1 := (Below.refl w.heap.size w).grown hg1 (Nat.le_refl _) (by intro k hk; cases hk)
  have ho2 := made_own ho1
  clear ho1 hg1 hi hz0 hz1 hz2
  go_wp2
  go_loopw [7, 8, 9, 19] (fun _ _ _ i wr => ∃ (k : Nat) (xs : List Int), k ≤ l.length ∧ i = .int .i64 k ∧ xs.length = k ∧ Hid (xs = dvs l m f k) ∧ Own w.heap.size wr w.heap.size l.length (fillz l.length xs) ∧ Below w.heap.size w wr) (fun _ _ _ i _ => l.length - (intOf i).toNat)
  case atStart => exact ⟨0, [], Nat.zero_le _, rfl, rfl, rfl, ho2, hb1⟩
  case round =>
    obtain ⟨k, xs, hk, rfl, hxl0, hxs, ho, hw⟩ := hrel
    by_cases hlt : k < l.length
    · have hlt2 : k < m.length := by have := hlm.out; omega
      have hxl := Lib.hid hxl0
      have hxn : Nums xs := by rw [hxs.out]; exact dvs_nms _ _ _ _
      have h1 : wr.cell? ⟨b1, o1 + k, none⟩ = some (.int .i64 (l.getD k 0)) := (hw.cell (p := ⟨b1, o1 + k, none⟩) hbl1).trans (HC1.out k hlt)
      have r1 := hr.at k
      have hi3 : (k : Int) < (l.length : Int) := by omega
      obtain ⟨x0, hx0⟩ : ∃ x0, l.getD k 0 = x0 := ⟨_, rfl⟩
      rw [hx0] at h1 r1
      have HX0 := Lib.hid hx0
      clear hb1 ho2 hx0 hxl0
      go_wp2
      obtain ⟨wo, hwo⟩ : ∃ wo : World, wo = wr := ⟨_, rfl⟩
      rw [← hwo] at ho hw ⊢
      clear hwo h1
      go_loopw [8, 9] (fun q i wi => ∃ (j : Nat) (s : Int), j ≤ k ∧ i = .int .i64 j ∧ q = .int .i64 s ∧ Hid (s = msub x0 (fun i => tms (xs.getD i 0) (m.getD (k - i) 0)) j) ∧ Own w.heap.size wi w.heap.size l.length (fillz l.length xs) ∧ Below w.heap.size w wi) (fun _ i _ => k - (intOf i).toNat)
      case atStart => exact ⟨0, x0, Nat.zero_le _, rfl, rfl, rfl, ho, hw⟩
      case round =>
        obtain ⟨j, s, hj, rfl, rfl, hs, hoi, hwi⟩ := hrel
        by_cases hjl : j < k
        · obtain ⟨d, hd⟩ : ∃ d : Nat, d = k - j := ⟨_, rfl⟩
          have h1 : wr.cell? ⟨w.heap.size, j, none⟩ = some (.int .i64 (xs.getD j 0)) := by
            rw [hoi.cellAt j (by rw [fillz_len (by rw [hxl.out]; exact hk)]; omega), fillz_low (by rw [hxl.out]; exact hjl)]
          have h2 : wr.cell? ⟨b2, o2 + d, none⟩ = some (.int .i64 (m.getD d 0)) := (hwi.cell (p := ⟨b2, o2 + d, none⟩) hbl2).trans (HC2.out d (by omega))
          have hwrap : IntKind.i64.wrap ((k : Int) - (j : Int)) = (d : Int) := by rw [show ((k : Int) - (j : Int)) = (d : Int) from by omega]; exact IntWalk.i64_in _ (by omega)
          have hi1 : (j : Int) < (l.length : Int) := by omega
          have hi2 : (d : Int) < (m.length : Int) := by omega
          have r1' := hxn.at j
          have r2 := hr2.at d
          have bs : 0 ≤ s ∧ s < 1000003 := by rw [hs.out]; exact msub_bd _ _ r1
          have hs2' : Hid (mns s (tms (xs.getD j 0) (m.getD d 0)) = msub x0 (fun i => tms (xs.getD i 0) (m.getD (k - i) 0)) (j + 1)) := by
            rw [hs.out, hd]; rfl
          have bt := tms_bd (xs.getD j 0) (m.getD d 0)
          clear hs hd
          generalize xs.getD j 0 = x at h1 r1' hs2' bt
          generalize m.getD d 0 = y at h2 r2 hs2' bt
          go_wp2
          go_quiet ((first | (go_at_call 74; exact quiet_same (iTimes x y (by omega) (by omega) _)) | (go_at_call 151; exact quiet_same (imns s (tms x y) (by omega) (by omega) _))))
          go_wp2
          go_roundw
          case rel => exact ⟨j + 1, _, by omega, by go_num, rfl, hs2', hoi, below_drewN hwi _⟩
          case measure => simp [intOf]; omega
        · have hjk : j = k := by omega
          subst hjk
          have bs : 0 ≤ s ∧ s < 1000003 := by rw [hs.out]; exact msub_bd _ _ r1
          have hs3 : Hid (xs ++ [tms s f] = dvs l m f (j + 1)) := by rw [dvs, ← hxs.out, hs.out, HX0.out]; rfl
          have hcs := hoi.cellAt j (by rw [fillz_len (by rw [hxl.out]; omega)]; omega)
          have hfr := hoi.frz j
          have hset := hoi.set j (tms s f)
          rw [show (fillz l.length xs).set j (tms s f) = fillz l.length (xs ++ [tms s f]) from by
            have := fillz_set (n := l.length) (xs := xs) (by rw [hxl.out]; omega) (tms s f); rw [hxl.out] at this; exact this] at hset
          have hb2 := hwi.setCell (p := ⟨w.heap.size, j, none⟩) (Nat.le_refl _) (.int .i64 (tms s f))
          have hl2 : Hid ((xs ++ [tms s f]).length = j + 1) := by show _ = _; simp [hxl.out]
          clear hs hxs ho hw hoi
          generalize (fillz l.length xs).getD j 0 = z at hcs
          go_wp2_with fail
          refine (iTimes s f (by omega) (by omega) _).mono ?_; rintro e w' ⟨rfl, rfl⟩
          generalize tms s f = s2 at hs3 hset hb2 hl2
          go_wp2
          go_roundw
          case rel => exact ⟨j + 1, xs ++ [s2], by omega, by go_num, hl2.out, hs3, hset, hb2⟩
          case measure => simp [intOf]; omega
    · have hkk : k = l.length := by omega
      subst hkk
      have hx2 := Lib.hid (show fillz l.length xs = divl l m by rw [fillz_full hxl0]; exact hxs.out.trans hfin.out)
      clear hxs hfin hxl0
      go_wp2
      go_ret
      exact ⟨_, l.length, ret_slice (divl_len l m).symm, by rw [hx2.out] at ho; exact ho, hw⟩

end Go.Proofs.YtldbhhocoolloaaGreat

namespace Go.Proofs.YtldbhhocoolloaaGreat
open Go.RowKit

def resDiv (l m : List Int) : List Int := if m.getD 0 0 = 0 then [] else divl l m
def codDiv (_ m : List Int) : Int := if m.getD 0 0 = 0 then 6 else 0
def allDiv (l m : List Int) : List Int := ifTwo l m (resDiv l m)
def alcDiv (l m : List Int) : Int := if two l m = 0 then codDiv l m else two l m
theorem resDiv_len (l m : List Int) : (resDiv l m).length ≤ l.length := by
  unfold resDiv; split
  · simp
  · rw [divl_len]; exact Nat.le_refl _

set_option maxHeartbeats 800000 in
theorem iDivR (a b : Option Addr) (ca cb : Nat) (l m : List Int) (w : World) (ha : At w a l) (hb : At w b m) (h1 : Hid (okS l = true)) (h2 : Hid (okS m = true)) (hlm : Hid (m.length = l.length)) :
    Calls Tryz.prog 223 #[.slice a l.length ca, .slice b m.length cb] w (Res2 w (resDiv l m) (codDiv l m)) := by
  have hk := okS_rng h1
  have hm0 : 1 ≤ m.length := (okS_rng h2).2.2.1
  have hb' := hb
  obtain ⟨b2, o2, rfl, hbl2, hc2⟩ := (hb.resolve_left (by intro e; rw [e] at hm0; simp at hm0))
  have hz : w.cell? ⟨b2, o2, none⟩ = some (.int .i64 (m.getD 0 0)) := by have := hc2 0 hm0; rwa [Nat.add_zero] at this
  have hmi : (0 : Int) < (m.length : Int) := by omega
  clear hc2
  by_cases h0 : m.getD 0 0 = 0
  · have hif := Lib.hid (show ([] : List Int) = resDiv l m by unfold resDiv; rw [if_pos h0])
    have hic := Lib.hid (show (6 : Int) = codDiv l m by unfold codDiv; rw [if_pos h0])
    rw [h0] at hz
    clear h0
    go_enter Tryz.func223, Tryz.ntmps223
    go_wp2_with fail
    go_ret2
    rw [← hif.out, ← hic.out]
    exact ⟨none, 0, rfl, .inl rfl, Below.refl _ _⟩
  · have hif := Lib.hid (show divl l m = resDiv l m by unfold resDiv; rw [if_neg h0])
    have hic := Lib.hid (show (0 : Int) = codDiv l m by unfold codDiv; rw [if_neg h0])
    have hq : (m.getD 0 0 == 0) = false := by rw [beq_eq_false_iff_ne]; exact h0
    clear h0
    obtain ⟨f0, hf0⟩ : ∃ f0, m.getD 0 0 = f0 := ⟨_, rfl⟩
    rw [hf0] at hz hq
    clear hf0
    go_enter Tryz.func223, Tryz.ntmps223
    go_wp2_with fail
    refine (iquotient a _ ca cb l m _ ha hb' hk.2.2.2.2 (okS_rng h2).2.2.2.2 hlm hk.2.2.1 hk.2.1).mono ?_; rintro e w1 ⟨g, cap, rfl, ho, hbel⟩
    go_wp2_with fail
    go_ret2
    exact res2_of_fresh (c := 0) hif.out hic.out ⟨g, cap, rfl, ho, hbel⟩

end Go.Proofs.YtldbhhocoolloaaGreat

namespace Go.Proofs.YtldbhhocoolloaaGreat
open Go.RowKit
set_option linter.unusedVariables false

theorem resLen_DivSeries (l m : List Int) (hl : l.length ≤ 1048576) (_ : m.length ≤ 1048576) : (allDiv l m).length ≤ 1048576 := ifTwo_len (Nat.le_trans (resDiv_len l m) hl)

end Go.Proofs.YtldbhhocoolloaaGreat

namespace Go.Proofs.YtldbhhocoolloaaGreat
open Go.RowKit

theorem set_nms {l : List Int} {k : Nat} {x : Int} (h : Nums l) (hx : 0 ≤ x ∧ x < 1000003) : Nums (l.set k x) := by
  intro n hn
  rcases List.mem_or_eq_of_mem_set hn with hn | hn
  · exact h n hn
  · rw [hn]; exact hx
theorem rep_nms (n : Nat) : Nums (List.replicate n 0) := by
  intro x hx
  rw [List.mem_replicate] at hx
  omega
theorem mull_nms (a b : List Int) : Nums (mull a b) := tab_nms _ fun _ => psum_bd _ _
theorem cmps_nms (a b : List Int) (j : Nat) : Nums (cmps a b j) := by
  cases j with
  | zero => exact rep_nms _
  | succ j => exact set_nms (mull_nms _ _) (pls_bd _ _)

/-- n numbers, the first one x, all others 0 -/
def cstl (x : Int) (n : Nat) : List Int := (List.replicate n 0).set 0 x
theorem cstl_len (x : Int) (n : Nat) : (cstl x n).length = n := by simp [cstl]

set_option maxHeartbeats 800000 in
theorem sConst (x : Int) (n : Nat) (w : World) (hn : n ≤ 1048576) :
    Calls Tryz.prog 105 #[.int .i64 x, .int .i64 n] w (Fresh w (cstl x n)) := by
  obtain ⟨i0, hi, hz0, hz1, hz2⟩ := info_parts info64
  by_cases h0 : n = 0
  · subst h0
    go_enter Tryz.func105, Tryz.ntmps105
    go_wp2_with (refine wpList_make_full _ rfl _ _ 25 rfl w.heap.size 2 i0 (.int .i64 0) 1 Tryz.underlying25 hi hz0 hz1 .i64 .i64 _ _ 0 rfl rfl rfl rfl ?c2 ?c3 (Nat.le_refl _) ?_)
    case c2 => rw [hz2]; omega
    case c3 => unfold maxLen; omega
    intro w1 ho1 hg1
    have hb1 := (Below.refl w.heap.size w).grown hg1 (Nat.le_refl _) (by intro k hk; cases hk)
    have ho2 := made_own ho1
    clear ho1 hg1 hi hz0 hz1 hz2
    go_wp2
    go_ret
    exact ⟨_, 0, rfl, ho2, hb1⟩
  · have hn0 : (0 : Int) < (n : Int) := by omega
    go_enter Tryz.func105, Tryz.ntmps105
    go_wp2_with (refine wpList_make_full _ rfl _ _ 25 rfl w.heap.size 2 i0 (.int .i64 0) 1 Tryz.underlying25 hi hz0 hz1 .i64 .i64 _ _ n rfl rfl rfl rfl ?c2 ?c3 (Nat.le_refl _) ?_)
    case c2 => rw [hz2]; omega
    case c3 => unfold maxLen; omega
    intro w1 ho1 hg1
    have hb1 := (Below.refl w.heap.size w).grown hg1 (Nat.le_refl _) (by intro k hk; cases hk)
    have ho2 := made_own ho1
    rw [fillz_zero] at ho2
    have hcs := ho2.cellAt 0 (by simp; omega)
    have hfr := ho2.frz 0
    have hset := ho2.set 0 x
    have hb2 := hb1.setCell (p := ⟨w.heap.size, 0, none⟩) (Nat.le_refl _) (.int .i64 x)
    clear ho1 hg1 hi hz0 hz1 hz2 ho2 hb1
    generalize (List.replicate n (0 : Int)).getD 0 0 = z at hcs
    go_wp2
    go_ret
    exact ⟨_, n, ret_slice (cstl_len x n).symm, hset, hb2⟩

theorem cstl_zero (n : Nat) : cstl 0 n = List.replicate n 0 := by
  unfold cstl
  cases n with
  | zero => rfl
  | succ n => rw [List.replicate_succ, List.set_cons_zero]

end Go.Proofs.YtldbhhocoolloaaGreat

namespace Go.Proofs.YtldbhhocoolloaaGreat
open Go.RowKit

def resCompose (l m : List Int) : List Int := if m.getD 0 0 = 0 then cmpl l m else []
def codCompose (_ m : List Int) : Int := if m.getD 0 0 = 0 then 0 else 4
def allCompose (l m : List Int) : List Int := ifTwo l m (resCompose l m)
def alcCompose (l m : List Int) : Int := if two l m = 0 then codCompose l m else two l m
theorem resCompose_len (l m : List Int) : (resCompose l m).length ≤ l.length := by
  unfold resCompose; split
  · rw [cmpl_len]; exact Nat.le_refl _
  · simp

end Go.Proofs.YtldbhhocoolloaaGreat

namespace Go.Proofs.YtldbhhocoolloaaGreat
open Go.RowKit
set_option linter.unusedVariables false

theorem resLen_ComposeSeries (l m : List Int) (hl : l.length ≤ 1048576) (_ : m.length ≤ 1048576) : (allCompose l m).length ≤ 1048576 := ifTwo_len (Nat.le_trans (resCompose_len l m) hl)

end Go.Proofs.YtldbhhocoolloaaGreat
