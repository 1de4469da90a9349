/- Elimination by the model. -/
import Derived.Test.YtiimebiecihpkaaMxd
import Derived.Test.YtiimebiecihpkaaRevW
import Derived.Deep.AppendLies
import Derived.Deep.RegionWith
import Derived.RegionTactic
namespace Go.Proofs.Ytiimebiecihpkaa
open Go.RowKit
set_option linter.unusedVariables false

/-- one row turns, in its place -/
theorem Mo.row1 {W W' : World} {L g kg n : Nat} {ls : List (List Int)} {R K : Nat → Nat} (h : Mo W L g kg n n ls R K) (hn : ls.length = n) (i : Nat) (hi : i < n) {r : List Int} (k : Kp (fun b => b = R i) W W') (ho : Own L W' (R i) (K i) r) (hl : r.length = (ls.getD i []).length) : Mo W' L g kg n n (ls.set i r) R K := by
  obtain ⟨vs, h1, h2⟩ := h.top
  have gb : W.grownBy W' (some (R i)) := ⟨k.os, k.tape, k.output, k.size, fun b hb hne => k.block b hb (fun e => hne (by rw [e]))⟩
  refine ⟨⟨vs, h1.kept gb (.inr (by simp [Value.ownBlock]; exact fun e => h.ne i hi e.symm)), fun q hq => ?_⟩, fun q hq => ?_, h.ne, h.inj⟩
  · rw [getD_set_row (by omega), h2 q hq]
    by_cases e : q = i
    · subst e; rw [if_pos rfl, hl]
    · rw [if_neg e]
  · rw [getD_set_row (by omega)]
    by_cases e : q = i
    · subst e; rw [if_pos rfl]; exact ho
    · rw [if_neg e]; exact (h.row q hq).keptBy gb (fun e2 => by simp only [Option.some.injEq] at e2; exact e (h.inj q i hq hi e2.symm))
theorem tk_step {r q : List Int} {f : Int} {k : Nat} (hk : k < r.length) (h : ∃ m, m = tab (fun j => if j < k then mns (r.getD j 0) (tms f (q.getD j 0)) else r.getD j 0) r.length) : (tab (fun j => if j < k then mns (r.getD j 0) (tms f (q.getD j 0)) else r.getD j 0) r.length).set k (mns (r.getD k 0) (tms f (q.getD k 0))) = tab (fun j => if j < k + 1 then mns (r.getD j 0) (tms f (q.getD j 0)) else r.getD j 0) r.length := by
  refine List.ext_getElem? fun i => ?_
  unfold tab
  rw [List.getElem?_set, List.getElem?_map, List.getElem?_map, List.length_map, List.length_range]
  by_cases hi : k = i
  · subst hi; rw [if_pos rfl, if_pos hk, List.getElem?_range hk]; simp
  · rw [if_neg hi]
    by_cases hi2 : i < r.length
    · rw [List.getElem?_range hi2]; simp only [Option.map_some]
      congr 1
      by_cases h3 : i < k
      · rw [if_pos h3, if_pos (by omega)]
      · rw [if_neg h3, if_neg (by omega)]
    · rw [List.getElem?_eq_none (by simp; omega)]; rfl
/-- a row of which k numbers have turned -/
def tkK (r q : List Int) (f : Int) (k : Nat) : List Int := tab (fun j => if j < k then mns (r.getD j 0) (tms f (q.getD j 0)) else r.getD j 0) r.length
theorem tkK_len (r q : List Int) (f : Int) (k : Nat) : (tkK r q f k).length = r.length := tab_len _ _
theorem tkK_0 (r q : List Int) (f : Int) : tkK r q f 0 = r := by
  refine List.ext_getElem? fun i => ?_
  unfold tkK tab
  rw [List.getElem?_map]
  by_cases hi : i < r.length
  · rw [List.getElem?_range hi]; simp [hi]
  · rw [List.getElem?_eq_none (by simp; omega), List.getElem?_eq_none (by omega)]; rfl
theorem tkK_all (r q : List Int) (f : Int) : tkK r q f r.length = tk r q f := by
  unfold tkK tk tab
  exact List.map_congr_left (fun j hj => by rw [if_pos (List.mem_range.1 hj)])
theorem tkK_at {r q : List Int} {f : Int} {k : Nat} (hk : k < r.length) : (tkK r q f k).getD k 0 = r.getD k 0 := by unfold tkK; rw [tab_at hk, if_neg (by omega)]
theorem tkK_set {r q : List Int} {f : Int} {k : Nat} (hk : k < r.length) : (tkK r q f k).set k (mns (r.getD k 0) (tms f (q.getD k 0))) = tkK r q f (k + 1) := tk_step hk ⟨_, rfl⟩

set_option maxRecDepth 100000 in
set_option maxHeartbeats 3200000 in
theorem sTake (L g cg : Nat) (r q : List Int) (aq : Option Addr) (cq : Nat) (f : Int) (w : World) (ho : Own L w g cg r) (hq : At w aq q) (hne : ∀ p : Addr, aq = some p → p.block ≠ g) (hl : r.length ≤ q.length) (hlb : q.length ≤ 1048576) (hr : Nums r) (hqn : Nums q) (hf : 0 ≤ f ∧ f < 1000003) :
    Calls Try.prog 156 #[.slice (some ⟨g, 0, none⟩) r.length cg, .slice aq q.length cq, .int .i64 f] w fun e w' => e = .returned (.tuple #[]) ∧ Own L w' g cg (tk r q f) ∧ Kp (fun b => b = g) w w' := by
  have HO0 : Hid (Own L w g cg (tkK r q f 0)) := by show Own _ _ _ _ _; rw [tkK_0]; exact ho
  have HQ := Lib.hid hq
  have HN1 := Lib.hid hr
  have HN2 := Lib.hid hqn
  clear ho hq hr hqn
  go_enter Try.func156, Try.ntmps156
  go_wp2_with fail
  go_loopw [6] (fun i wr => ∃ k : Nat, k ≤ r.length ∧ i = .int .i64 k ∧ Hid (Own L wr g cg (tkK r q f k)) ∧ Hid (Kp (fun b => b = g) w wr)) (fun i _ => r.length - (intOf i).toNat)
  case atStart => exact ⟨0, Nat.zero_le _, rfl, HO0.out, Kp.refl _ _⟩
  case round =>
    obtain ⟨k, hk, rfl, HO, HK⟩ := hrel
    clear HO0
    by_cases hlt : k < r.length
    · have hii : (k : Int) < (r.length : Int) := by omega
      have hqi : (k : Int) < (q.length : Int) := by omega
      obtain ⟨b, off, rfl, hb, hall⟩ := HQ.out.resolve_left (by intro e; rw [e] at hqi; simp at hqi; omega)
      have c1 := HK.out.cell (hall k (by omega)) (hne _ rfl)
      have c0 := HO.out.cellAt k (by rw [tkK_len]; exact hlt)
      rw [tkK_at hlt] at c0
      have f0 := HO.out.frz k
      have b1 := HN1.out.at k
      have b2 := HN2.out.at k
      have HS : Hid (Own L (wr.setCell ⟨g, k, none⟩ (.int .i64 (mns (r.getD k 0) (tms f (q.getD k 0))))) g cg (tkK r q f (k + 1))) := by show Own _ _ _ _ _; rw [← tkK_set hlt]; exact HO.out.set k _
      have HKS : Hid (Kp (fun b => b = g) w (wr.setCell ⟨g, k, none⟩ (.int .i64 (mns (r.getD k 0) (tms f (q.getD k 0)))))) := HK.out.trans (Kp.set (S := fun b => b = g) (p := ⟨g, k, none⟩) rfl)
      clear hall HO HK HQ
      generalize r.getD k 0 = x at *
      generalize q.getD k 0 = y at *
      have bt := tms_bd f y
      have HT := fun (W : World) => Lib.hid (sTimes f y (by omega) (by omega) W)
      have HM := fun (W : World) => Lib.hid (sMinus x (tms f y) b1 bt W)
      generalize tms f y = z at *
      go_wp2_with fail
      go_region_with (first | (go_at_call 71; with_reducible refine (HT _).out.mono ?_; rintro e w' ⟨rfl, rfl⟩) | (go_at_call 208; with_reducible refine (HM _).out.mono ?_; rintro e w' ⟨rfl, rfl⟩))
      all_goals
        go_wp2_with fail
        go_roundw
        case rel => exact ⟨k + 1, by omega, by go_num, HS.out, ⟨HKS.out.os, HKS.out.tape, HKS.out.output, HKS.out.size, HKS.out.block⟩⟩
        case measure => simp [intOf]; omega
    · have hii : ¬ (k : Int) < (r.length : Int) := by omega
      obtain rfl : k = r.length := by omega
      have HE : Hid (Own L wr g cg (tk r q f)) := by have := HO.out; rw [tkK_all] at this; exact this
      clear HO
      go_wp2_with fail
      exact bodyPost_end (v := .tuple #[]) (by simp [results, Try.results156]) rfl ⟨rfl, HE.out, HK.out⟩

end Go.Proofs.Ytiimebiecihpkaa
