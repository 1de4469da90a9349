/- Sums of series. -/
import Derived.Test.YtegjlfbklcgapaaValue
import Derived.StillTactics
import Derived.WalkSpells
import Derived.Laws.Pointers
import Derived.Deep.RegionHeld3
import Derived.Deep.AppendLies
import Derived.Deep.DrawnRows
import Derived.KernelRfl
namespace Go.Proofs.Ytegjlfbklcgapaa
open Go.RowKit
attribute [local go_sem ↓] Go.wp_at_zero Go.wp_at_succ

theorem flip {P : Program} {f : FuncId} {args : Array Value} {w : World} {v : Value}
    (h : Calls P f args w fun e w' => e = .returned v ∧ w = w') : Calls P f args w fun e w'' => e = .returned v ∧ w'' = w :=
  h.mono fun _ _ ⟨he, hm⟩ => ⟨he, hm.symm⟩

theorem own_appended {B : Nat} {w : World} {g cap : Nat} {xs : List Int} {x : Int} (h : w.ownsRow B 2 1 (.slice (some ⟨g, 0, none⟩) (xs.length + 1) cap) (xs.length + 1) (xs.map (Value.int .i64) ++ [Value.int .i64 x])) :
    Own B w g cap (xs ++ [x]) := by
  unfold Own
  rw [List.length_append, List.map_append]
  exact h
theorem own_none (w : World) (B : Nat) (hB : B ≤ w.heap.size) : Own B (w.alloc (.cells #[] 2)) w.heap.size 0 [] := by
  unfold Own
  exact World.ownsRow_made w #[] 0 hB (by unfold maxLen; omega) rfl

theorem ret_slice {a : Option Addr} {n m c : Nat} (h : n = m) : Ending.returned (.slice a n c) = .returned (.slice a m c) := by rw [h]

set_option maxRecDepth 100000 in
set_option maxHeartbeats 3200000 in
theorem sAdd (a b : Option Addr) (ca cb : Nat) (l m : List Int) (w : World) (ha : At w a l) (hb : At w b m) (hr : Rng l) (hr2 : Rng m) (hlm : Hid (m.length = l.length)) (hl : l.length ≤ 1048576) :
    Calls Try.prog 89 #[.slice a l.length ca, .slice b m.length cb] w (Fresh w (addl l m)) := by
  obtain ⟨i0, hi, hz0, hz1, hz2⟩ := info_parts info64
  have hB0 := (Below.refl w.heap.size w).alloc (Nat.le_refl _) (.cells #[] 2)
  have hO0 := own_none w w.heap.size (Nat.le_refl _)
  go_enter Try.func89, Try.ntmps89
  go_wp2
  go_loopw [5, 6] (fun v i wr => ∃ (k g cap : Nat) (xs : List Int), k ≤ l.length ∧ i = .int .i64 k ∧ v = .slice (some ⟨g, 0, none⟩) xs.length cap ∧ Hid (xs = tab (fun k => pls (l.getD k 0) (m.getD k 0)) k) ∧ Own w.heap.size wr g cap xs ∧ Below w.heap.size w wr) (fun _ i _ => l.length - (intOf i).toNat)
  case atStart => exact ⟨0, w.heap.size, 0, [], Nat.zero_le _, rfl, rfl, rfl, hO0, hB0⟩
  case round =>
    obtain ⟨k, g, cap, xs, hk, rfl, rfl, hxs, ho, hw⟩ := hrel
    by_cases hlt : k < l.length
    · obtain ⟨b1, o1, rfl, hbl1, hc1⟩ := (ha.resolve_left (by intro e; rw [e] at hlt; simp at hlt))
      have hlt2 : k < m.length := by have := hlm.out; omega
      obtain ⟨b2, o2, rfl, hbl2, hc2⟩ := (hb.resolve_left (by intro e; rw [e] at hlt2; simp at hlt2))
      have h1 : wr.cell? ⟨b1, o1 + k, none⟩ = some (.int .i64 (l.getD k 0)) := (hw.cell (p := ⟨b1, o1 + k, none⟩) hbl1).trans (hc1 k hlt)
      have h2 : wr.cell? ⟨b2, o2 + k, none⟩ = some (.int .i64 (m.getD k 0)) := (hw.cell (p := ⟨b2, o2 + k, none⟩) hbl2).trans (hc2 k hlt2)
      have hxl : xs.length ≤ k := by rw [hxs.out, tab_len]; exact Nat.le_refl _
      have r1 := hr.at k
      have r2 := hr2.at k
      have hs2 : Hid (xs ++ [pls (l.getD k 0) (m.getD k 0)] = tab (fun k => pls (l.getD k 0) (m.getD k 0)) (k + 1)) := by rw [tab_succ, hxs.out]; rfl
      clear hc1 hc2 ha hb hxs hB0 hO0
      have hi1 : (k : Int) < (l.length : Int) := by omega
      have hi2 : (k : Int) < (m.length : Int) := by omega
      generalize l.getD k 0 = x at h1 r1 hs2
      generalize m.getD k 0 = y at h2 r2 hs2
      have ho2 : wr.ownsRow w.heap.size 2 1 (.slice (some ⟨g, 0, none⟩) xs.length cap) xs.length (xs.map (Value.int .i64)) := ho
      have hsz := hw.size
      have hgl := ho.base
      go_wp2
      go_region_held3 (fun w' => w'.cell? ⟨b1, o1 + k, none⟩ = some (.int .i64 x) ∧ w'.cell? ⟨b2, o2 + k, none⟩ = some (.int .i64 y))
        (first
          | go_keep
          | (go_split_ands
             refine ⟨?_, ?_⟩
             · (rw [hgrow.cell_far _ (by simp; omega) (by simp [Value.ownBlock]; omega)]; assumption)
             · (rw [hgrow.cell_far _ (by simp; omega) (by simp [Value.ownBlock]; omega)]; assumption)))
        (first | ((refine step_append_lies _ (by rfl) _ _ _ (by rfl) w.heap.size 2 i0 _ 1 8 Try.underlying30 hi hz0 hz1 hz2 rfl (by omega) (.slice (some ⟨g, 0, none⟩) xs.length cap) xs.length (xs.map (Value.int .i64)) (by rfl) ((ho2.alloc _).drew) ⟨wr.heap.size, 0, none⟩ 1 1 [.int .i64 (pls x y)] (by rfl) (by rfl) (World.news_of_block (cs := #[.int .i64 (pls x y)]) (t := 2) (fr := (0, 0)) (heap_alloc_new wr _)) (by simp [Value.oneCell']) (by omega) (by unfold maxLen; omega) (by omega) (by simp; omega) (wr.heap.size + 1) (by simp) ?_; intro gg cc w1 hown1 hgrow hat hlt1)) | (go_at_call 51; refine (sPlus x y r1 r2 _).mono ?_; rintro e w' ⟨rfl, rfl⟩))
      have hw2 : Below w.heap.size w w1 := ((hw.alloc hsz (.cells #[.int .i64 (pls x y)] 2)).drew).grown hgrow (by simp; omega) (by intro q hq; simp [Value.ownBlock] at hq; omega)
      have ho3 := own_appended hown1
      clear hgrow hown1 ho2
      go_wp2
      go_roundw
      case rel => exact ⟨k + 1, gg, cc, xs ++ [pls x y], by omega, by go_num, by simp, hs2, ho3, hw2⟩
      case measure => simp [intOf]; omega
    · have hkk : k = l.length := by omega
      subst hkk
      go_wp2
      go_ret
      exact ⟨g, cap, ret_slice (by rw [hxs.out, tab_len, addl_len]), by rw [show addl l m = xs from hxs.out.symm]; exact ho, hw⟩

end Go.Proofs.Ytegjlfbklcgapaa
