/- The model's table of least costs. -/
import Derived.Test.YtleebjjikpmgoaaCle
import Derived.Deep.AppendLies
import Derived.RegionTactic
import Derived.BigQuiet
import Derived.Deep.RegionWith
namespace Go.Proofs.Ytleebjjikpmgoaa
open Go.RowKit
set_option linter.unusedVariables false

theorem Kp.of_grown {w w' : World} {g : Nat} (h : w.grownBy w' (some g)) : Kp (fun k => k = g) w w' := ⟨h.os, h.tape, h.output, h.size, fun k hk hn => h.block k hk (by intro e; cases e; exact hn rfl)⟩
set_option maxRecDepth 100000 in
theorem infoRow2 : (Try.prog.info? 57).map (fun i => (i.zero, i.size, i.bytes)) = some (some (.slice none 0 0), 1, 24) := by kernel_rfl
/-- the open level's numbers: filled for sizes below s, and for size s up to place k -/
def curF (wt : List Int) (c s k a b : Nat) : Int := if b - a < s ∨ (b - a = s ∧ a < k) then tbM wt c a b else 0

theorem curF_0 {wt : List Int} {c a b : Nat} : curF wt c 2 0 a b = 0 := by
  unfold curF
  split
  · rename_i h
    unfold tbM; rw [if_pos (by omega)]
  · rfl

/-- all levels are made -/
theorem ta_all {W : World} {L g kg n c B : Nat} {vs : List Value} {F : Nat → Nat → Nat → Int} (h : Ta W L g kg n c B vs F) (hv : W.ownsRow L 57 1 (.slice (some ⟨g, 0, none⟩) c kg) c vs) : Tb3 W g c n F := by
  intro i hi
  obtain ⟨g1, k1, h1, h2, h3, h4⟩ := h i hi
  refine ⟨g1, k1, ?_, fun a ha => ?_⟩
  · rw [hv.cellAt i (by omega)]; exact h1
  · obtain ⟨ga, ka, q1, q2, q3, q4⟩ := h4 a ha
    exact ⟨ga, ka, q1, q4⟩
/-- while the last level is filled -/
structure Fl (wi : World) (L Lc gg cc gc kc n c B : Nat) (vs : List Value) (R : Nat → Nat) (wt : List Int) (s k : Nat) : Prop where
  own : wi.ownsRow L 57 1 (.slice (some ⟨gg, 0, none⟩) (c + 1) cc) (c + 1) (vs ++ [.slice (some ⟨gc, 0, none⟩) (n + 1) kc])
  ta : Ta wi L gg cc n c B vs (tbM wt)
  lv : Lv wi Lc gc kc n (n + 1) R (curF wt c s k)
  ng : gg ≠ gc
  nr : ∀ a, a ≤ n → gg ≠ R a
  lc : B = Lc
theorem Fl.set {wi : World} {L Lc gg cc gc kc n c B : Nat} {vs : List Value} {R : Nat → Nat} {wt : List Int} {s k : Nat} (h : Fl wi L Lc gg cc gc kc n c B vs R wt s k) (hs : 1 ≤ s) (hk : k + s ≤ n) :
    Fl (wi.setCell ⟨R k, k + s, none⟩ (.int .i64 (tbM wt c k (k + s)))) L Lc gg cc gc kc n c B vs R wt s (k + 1) := by
  obtain ⟨h1, h2, h3, h4, h5, h6⟩ := h
  refine ⟨h1.kept (grownBy_set wi (R k) (k + s) _) (.inr (by simp [Value.ownBlock]; exact h5 k (by omega))), h2.keep (S := fun b => b = R k) (Kp.set rfl) (fun b e => .inr (by have := (h3.row k (by omega)).base; omega)) (.inl rfl), (h3.set k (k + s) _ (by omega) hk).to (fun a b ha hb => ?_), h4, h5, h6⟩
  by_cases e : a = k ∧ b = k + s
  · rw [if_pos e, e.1, e.2]; unfold curF; rw [if_pos (.inr ⟨by omega, by omega⟩)]
  · rw [if_neg e]
    unfold curF
    by_cases e2 : b - a < s ∨ (b - a = s ∧ a < k)
    · rw [if_pos e2, if_pos (by omega)]
    · rw [if_neg e2, if_neg (by omega)]
theorem Fl.more {wi : World} {L Lc gg cc gc kc n c B : Nat} {vs : List Value} {R : Nat → Nat} {wt : List Int} {s k : Nat} (h : Fl wi L Lc gg cc gc kc n c B vs R wt s k) (hk : n < k + s) : Fl wi L Lc gg cc gc kc n c B vs R wt (s + 1) 0 := by
  obtain ⟨h1, h2, h3, h4, h5, h6⟩ := h
  refine ⟨h1, h2, h3.to (fun a b ha hb => ?_), h4, h5, h6⟩
  unfold curF
  by_cases e2 : b - a < s ∨ (b - a = s ∧ a < k)
  · rw [if_pos e2, if_pos (by omega)]
  · rw [if_neg e2, if_neg (by omega)]
theorem Fl.drew {wi : World} {L Lc gg cc gc kc n c B : Nat} {vs : List Value} {R : Nat → Nat} {wt : List Int} {s k : Nat} (h : Fl wi L Lc gg cc gc kc n c B vs R wt s k) : Fl wi.drew L Lc gg cc gc kc n c B vs R wt s k :=
  ⟨h.own, h.ta, ⟨h.lv.top, h.lv.row, h.lv.ne, h.lv.inj⟩, h.ng, h.nr, h.lc⟩
theorem Fl.full {wi : World} {L Lc gg cc gc kc n c B : Nat} {vs : List Value} {R : Nat → Nat} {wt : List Int} {s : Nat} (h : Fl wi L Lc gg cc gc kc n c B vs R wt s 0) (hs : n < s) : Lv wi Lc gc kc n (n + 1) R (tbM wt c) :=
  h.lv.to (fun a b ha hb => by unfold curF; rw [if_pos (by omega)])

set_option maxRecDepth 100000 in
set_option maxHeartbeats 6400000 in
theorem sTable (wt : List Int) (hw : ∀ k, 0 ≤ wt.getD k 0 ∧ wt.getD k 0 ≤ 1000) (aw : Option Addr) (capw n M : Nat) (hn : n ≤ 40) (hwl : wt.length = n) (hM : M ≤ 8) (W : World) (hW : At W aw wt) :
    Calls Try.prog 55 #[.slice aw wt.length capw, .int .i64 M] W fun e w' => ∃ g kg, e = .returned (.slice (some ⟨g, 0, none⟩) (M + 1) kg) ∧ Tb3 w' g (M + 1) n (tbM wt) ∧ Below W.heap.size W w' := by
  obtain ⟨i0, hi, hz0, hz1, hz2⟩ := info_parts info64
  obtain ⟨i1, hj, hy0, hy1, hy2⟩ := info_parts infoRow
  obtain ⟨i2, hjj, hx0, hx1, hx2⟩ := info_parts infoRow2
  have hB0 := (Below.refl W.heap.size W).alloc (Nat.le_refl _) (.cells #[] 57)
  have hO0 : (W.alloc (.cells #[] 57)).ownsRow W.heap.size 57 1 (.slice (some ⟨W.heap.size, 0, none⟩) 0 0) 0 [] := World.ownsRow_made W #[] 0 (Nat.le_refl _) (by unfold maxLen; omega) rfl
  have HW := Lib.hid hw
  have HA := Lib.hid hW
  clear hw hW
  rw [hwl]
  go_enter Try.func55, Try.ntmps55
  go_wp2_with fail
  go_loopw [6, 7] (fun v q wr => ∃ (c g kg : Nat) (vs : List Value), c ≤ M + 1 ∧ v = .slice (some ⟨g, 0, none⟩) c kg ∧ q = .int .i64 c ∧ Hid (vs.length = c) ∧ Hid (wr.ownsRow W.heap.size 57 1 (.slice (some ⟨g, 0, none⟩) c kg) c vs) ∧ Hid (Ta wr W.heap.size g kg n c wr.heap.size vs (tbM wt)) ∧ Below W.heap.size W wr) (fun _ q _ => M + 1 - (intOf q).toNat)
  case atStart => exact ⟨0, W.heap.size, 0, [], Nat.zero_le _, rfl, rfl, rfl, hO0, fun i hi => absurd hi (Nat.not_lt_zero _), hB0⟩
  case round =>
    obtain ⟨c, g, kg, vs, hc, rfl, rfl, HL, HO, HT, hw⟩ := hrel
    clear hO0 hB0
    have hsz := hw.size
    by_cases hlt : c ≤ M
    · have hii : (c : Int) ≤ (M : Int) := by omega
      have hg0 := Lib.hid (HO.out.lt g rfl)
      have HB0 := Lib.hid ((Below.refl wr.heap.size wr).alloc (Nat.le_refl _) (.cells #[] 22))
      have HV0 : Hid (Lv (wr.alloc (.cells #[] 22)) wr.heap.size wr.heap.size 0 n 0 (fun _ => 0) (curF wt c 2 0)) := ⟨World.ownsRow_made wr #[] 0 (Nat.le_refl _) (by unfold maxLen; omega) rfl, fun a h => absurd h (Nat.not_lt_zero _), fun a h => absurd h (Nat.not_lt_zero _), fun a b h => absurd h (Nat.not_lt_zero _)⟩
      go_wp2_with fail
      obtain ⟨wo, hwo⟩ : ∃ wo : World, wo = wr := ⟨_, rfl⟩
      rw [← hwo] at HO HT hw hsz hg0 HB0 HV0 ⊢
      clear hwo
      go_loopw [8, 9] (fun v q wi => ∃ (k gc kc : Nat) (R : Nat → Nat), k ≤ n + 1 ∧ v = .slice (some ⟨gc, 0, none⟩) k kc ∧ q = .int .i64 k ∧ Hid (Lv wi wo.heap.size gc kc n k R (curF wt c 2 0)) ∧ Hid (Below wo.heap.size wo wi)) (fun _ q _ => n + 1 - (intOf q).toNat)
      case atStart => exact ⟨0, wo.heap.size, 0, fun _ => 0, Nat.zero_le _, rfl, rfl, HV0.out, HB0.out⟩
      case round =>
        obtain ⟨k, gc, kc, R, hk, rfl, rfl, HV, HB⟩ := hrel
        by_cases hlk : k ≤ n
        · have hkk : (k : Int) ≤ (n : Int) := by omega
          have hn1 : IntKind.i64.wrap ((n : Int) + 1) = (n : Int) + 1 := IntWalk.i64_in _ (by omega)
          have hzi := HB.out.size
          go_wp2_with (refine wpList_make_full _ rfl _ _ 22 rfl wr.heap.size 2 i0 (.int .i64 0) 1 Try.underlying22 hi hz0 hz1 .i64 .i64 _ _ (n + 1) rfl rfl rfl rfl ?c2 ?c3 (Nat.le_refl _) ?_)
          case c2 => rw [hz2]; omega
          case c3 => unfold maxLen; omega
          intro w3 ho3 hg3
          have O3 : Own wr.heap.size w3 wr.heap.size (n + 1) (fillz (n + 1) []) := made_own ho3
          have hb3 : Below wr.heap.size wr w3 := (Below.refl _ _).grown hg3 (Nat.le_refl _) (by intro k hk; cases hk)
          have hw3 := Lib.hid (HB.out.trans (hb3.mono hzi))
          have HV3 := Lib.hid (HV.out.next hb3)
          have hob := O3.base
          have hgc := HV.out.base
          clear ho3 hg3
          have HRN : Hid (∀ a, a < k → R a ≠ wr.heap.size) := fun a ha => by have := (HV.out.row a ha).base; omega
          have hgc3 : gc < w3.heap.size := HV3.out.base.2
          clear HV HB hb3
          have hgn := hgc.2
          obtain ⟨g1, hg1⟩ : ∃ g1, g1 = wr.heap.size := ⟨_, rfl⟩
          rw [← hg1] at O3 hob HRN hgn hzi ⊢
          clear hg1
          have HT3 := HV3.out.top
          go_wp2_with (at_builtin; refine wpList_append_lies _ rfl _ _ _ rfl wo.heap.size 22 i1 _ 1 24 Try.underlying57 hj hy0 hy1 hy2 rfl (by omega) (.slice (some ⟨gc, 0, none⟩) k kc) k _ rfl (HT3.alloc _) ⟨w3.heap.size, 0, none⟩ 1 1 [.slice (some ⟨g1, 0, none⟩) (n + 1) (n + 1)] rfl rfl (World.news_of_block (cs := #[.slice (some ⟨g1, 0, none⟩) (n + 1) (n + 1)]) (t := 22) (fr := (0, 0)) (heap_alloc_new w3 _)) (by simp [Value.oneCell']) (by omega) (by unfold maxLen; omega) (by omega) (by simp; omega) (w3.heap.size + 1) (by simp) ?_; intro gg cc w4 hown4 hgrow hat hlt4)
          have hba : Below w3.heap.size w3 (w3.alloc (.cells #[.slice (some ⟨g1, 0, none⟩) (n + 1) (n + 1)] 22)) := (Below.refl _ _).alloc (Nat.le_refl _) _
          have HV4 := Lib.hid (lv_push (HV3.out.next hba) ((O3.kept hba hob.2).mono hzi) (by omega) HRN.out hown4 hgrow (gg_of hat (by simp)) (fun b => curF_0))
          have hw4 := (hw3.out.alloc hw3.out.size (.cells #[.slice (some ⟨g1, 0, none⟩) (n + 1) (n + 1)] 22)).grown hgrow (by simp; omega) (by intro q hq; simp [Value.ownBlock] at hq; omega)
          clear hown4 hgrow hat HT3
          go_roundw
          case rel => exact ⟨k + 1, gg, cc, _, by omega, rfl, by go_num, HV4.out, hw4⟩
          case measure => simp [intOf]; omega
        · have hkk : ¬ (k : Int) ≤ (n : Int) := by omega
          obtain rfl : k = n + 1 := by omega
          have hgb : W.heap.size ≤ g ∧ g < wo.heap.size := hg0.out
          have hzl := HB.out.size
          have HO2 : wr.ownsRow W.heap.size 57 1 (.slice (some ⟨g, 0, none⟩) c kg) c vs := HO.out.kept (below_grownBy HB.out) (.inr (by simp [Value.ownBlock]))
          have hvl := HL.out
          go_wp2_with (at_builtin; refine wpList_append_lies _ rfl _ _ _ rfl W.heap.size 57 i2 _ 1 24 Try.underlying78 hjj hx0 hx1 hx2 rfl (by omega) (.slice (some ⟨g, 0, none⟩) c kg) c vs rfl (HO2.alloc _) ⟨wr.heap.size, 0, none⟩ 1 1 [.slice (some ⟨gc, 0, none⟩) (n + 1) kc] rfl rfl (World.news_of_block (cs := #[.slice (some ⟨gc, 0, none⟩) (n + 1) kc]) (t := 57) (fr := (0, 0)) (heap_alloc_new wr _)) (by simp [Value.oneCell']) (by omega) (by unfold maxLen; omega) (by omega) (by simp; omega) (wr.heap.size + 1) (by simp) ?_; intro gg cc w4 hown4 hgrow hat hlt4)
          have hba : Below wr.heap.size wr (wr.alloc (.cells #[.slice (some ⟨gc, 0, none⟩) (n + 1) kc] 57)) := (Below.refl _ _).alloc (Nat.le_refl _) _
          have hwb := Lib.hid (((hw.trans (HB.out.mono hsz)).alloc (by omega) (.cells #[.slice (some ⟨gc, 0, none⟩) (n + 1) kc] 57)).grown hgrow (by simp; omega) (by intro q hq; simp [Value.ownBlock] at hq; omega))
          have hgg : gg = g ∨ (wr.alloc (.cells #[.slice (some ⟨gc, 0, none⟩) (n + 1) kc] 57)).heap.size ≤ gg := gg_of hat (W := wr.alloc (.cells #[.slice (some ⟨gc, 0, none⟩) (n + 1) kc] 57)) (by simp)
          have hgg2 : gg = g ∨ wr.heap.size + 1 ≤ gg := by simpa using hgg
          have hVb := HV.out.base
          have HF0 : Hid (Fl w4 W.heap.size wo.heap.size gg cc gc kc n c wo.heap.size vs R wt 2 0) := by
            refine ⟨hown4, ?_, (HV.out.next hba).by hgrow (show g < wo.heap.size by omega), by omega, fun a ha => by have := (HV.out.row a (by omega)).base; omega, rfl⟩
            have k1 := (Kp.of_below (S := fun b => b = g) (HB.out.trans (hba.mono hzl)))
            exact HT.out.keep (k1.trans (Kp.of_grown hgrow)) (fun b e => .inl e) (by omega)
          clear hown4 hgrow hat HV HB HO2 hgg hba
          go_loopw [10] (fun q wi => ∃ s : Nat, 2 ≤ s ∧ q = .int .i64 s ∧ Hid (Fl wi W.heap.size wo.heap.size gg cc gc kc n c wo.heap.size vs R wt s 0) ∧ Hid (Below W.heap.size W wi)) (fun q _ => n + 1 - (intOf q).toNat)
          case atStart => exact ⟨2, Nat.le_refl _, rfl, HF0.out, hwb.out⟩
          case round =>
            obtain ⟨s, hs, rfl, HF, hws⟩ := hrel
            clear HF0 hwb
            by_cases hsn : s ≤ n
            · have hsi : (s : Int) ≤ (n : Int) := by omega
              go_wp2_with fail
              go_loopw [11] (fun q wi => ∃ k : Nat, k + s ≤ n + 1 ∧ q = .int .i64 k ∧ Hid (Fl wi W.heap.size wo.heap.size gg cc gc kc n c wo.heap.size vs R wt s k) ∧ Hid (Below W.heap.size W wi)) (fun q _ => n + 1 - (intOf q).toNat)
              case atStart => exact ⟨0, by omega, rfl, HF.out, hws.out⟩
              case round =>
                obtain ⟨k, hk, rfl, HFk, hwk⟩ := hrel
                clear HF hws
                have e1 : IntKind.i64.wrap ((k : Int) + (s : Int)) = (k : Int) + (s : Int) := IntWalk.i64_in _ (by omega)
                by_cases hkn : k + s ≤ n
                · have hki : (k : Int) + (s : Int) ≤ (n : Int) := by omega
                  have HSP := Lib.hid (sSplit wt HW.out aw capw gg cc (c + 1) n (fun i => if i = c then curF wt c s k else tbM wt i) c k (k + s) hn hwl hkn (by omega) (by omega) (by omega) wr.drew (show At wr.drew aw wt from (show At wr aw wt from HA.out.below hwk.out (Nat.le_refl _))) (ta_tb3 (W := wr) HFk.out.ta HL.out HFk.out.own HFk.out.lv) (fun hc m h1 h2 => ⟨by show (if c - 1 = c then curF wt c s k else tbM wt (c - 1)) m (k + s) = _; rw [if_neg (by omega)], by show (if c = c then curF wt c s k else tbM wt c) k m = _; rw [if_pos rfl]; unfold curF; rw [if_pos (by omega)]⟩))
                  have x0 := HFk.out.lv.cell k (by omega)
                  have x1 := HFk.out.lv.at k (k + s) (by omega) hkn
                  have x2 := (HFk.out.lv.row k (by omega)).frz (k + s)
                  have HFn := Lib.hid (HFk.out.set (by omega) hkn)
                  have hn1 : (k : Int) < (n : Int) + 1 := by omega
                  have hn2 : (k : Int) + (s : Int) < (n : Int) + 1 := by omega
                  have HTB := Lib.hid (spM_tb HW.out (c := c) (a := k) (b := k + s) (by omega))
                  rw [hwl] at HSP
                  go_wp2_with fail
                  have hbn : Below W.heap.size W (wr.setCell ⟨R k, k + s, none⟩ (.int .i64 (tbM wt c k (k + s)))) := hwk.out.trans ((Kp.set (S := fun b => b = R k) rfl).below hwk.out.size (fun b e => by have := (HFk.out.lv.row k (by omega)).base; omega))
                  have HBN := Lib.hid hbn
                  clear hbn
                  clear hwk HFk
                  go_region_with (go_at_call 54; refine HSP.out.mono ?_; rintro e w' ⟨rfl, rfl⟩)
                  all_goals (
                    rw [HTB.out]
                    go_wp2_with fail
                    go_roundw
                    case rel => exact ⟨k + 1, by omega, by go_num, HFn.out.drew, HBN.out.drew⟩
                    case measure => simp [intOf]; omega)
                · have hki : ¬ (k : Int) + (s : Int) ≤ (n : Int) := by omega
                  go_wp2_with fail
                  go_roundw
                  case rel => exact ⟨s + 1, by omega, by go_num, HFk.out.more (by omega), hwk.out⟩
                  case measure => simp [intOf]; omega
            · have hsi : ¬ (s : Int) ≤ (n : Int) := by omega
              go_wp2_with fail
              go_roundw
              case rel => exact ⟨c + 1, gg, cc, _, by omega, rfl, by go_num, by show (vs ++ [_]).length = _; rw [List.length_append, HL.out]; rfl, HF.out.own, ta_full HF.out.ta HL.out (by have := HF.out.lv.base; omega) HF.out.ng HF.out.nr (HF.out.full (by omega)), hws.out⟩
              case measure => simp [intOf]; omega
    · have hii : ¬ (c : Int) ≤ (M : Int) := by omega
      obtain rfl : c = M + 1 := by omega
      have HR := Lib.hid (ta_all HT.out HO.out)
      clear HT HO
      go_wp2_with fail
      go_ret
      exact ⟨g, ⟨kg, rfl⟩, HR.out, hw⟩

end Go.Proofs.Ytleebjjikpmgoaa
