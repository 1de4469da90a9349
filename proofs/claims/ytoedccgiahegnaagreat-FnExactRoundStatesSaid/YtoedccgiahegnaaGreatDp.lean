/- Pairs of values and slopes, and the parts of pairs. Values and slopes along a direction, by the program. Unit vectors. Directional and Partial by the program. Partial by the program. -/
import Derived.Deep.RegionWith
import Derived.Deep.RegionHeld3
import Derived.Deep.Cut
import Derived.Deep.CutRange
import Derived.StillTailTactics
import Derived.Test.YtoedccgiahegnaaGreatDw
import Derived.Test.YtoedccgiahegnaaGreatGp
import Derived.Test.YtoedccgiahegnaaGreatDu
import Derived.Test.YtoedccgiahegnaaGreatFg
import Derived.Test.YtoedccgiahegnaaGreatBase
import Derived.Test.YtoedccgiahegnaaGreatCkr
namespace Go.Proofs.YtoedccgiahegnaaGreat
open Go.RowKit
set_option linter.unusedVariables false

theorem zip_take {l m : List Int} (hl : m.length = l.length) {i : Nat} (hi : i < l.length) : (l.zip m).take (i + 1) = (l.zip m).take i ++ [(l.getD i 0, m.getD i 0)] := by
  have hz : i < (l.zip m).length := by simp; omega
  rw [List.take_add_one, List.getElem?_eq_getElem hz]
  have h := zip_at hl hi
  rw [List.getD_eq_getElem?_getD, List.getElem?_eq_getElem hz] at h
  simp only [Option.getD_some] at h
  rw [h]; rfl
theorem zip_len {l m : List Int} (hl : m.length = l.length) : (l.zip m).length = l.length := by simp; omega

set_option maxRecDepth 100000 in
set_option maxHeartbeats 3200000 in
theorem iPairsOf (aa da : Option Addr) (ca cd n : Nat) (args dir : List Int) (hn : args.length = n) (hd : dir.length = n) (hb : n ≤ 1048576) (w : World) (hA : At w aa args) (hD : At w da dir) :
    Calls Tryz.prog 80 #[.slice aa n ca, .slice da n cd] w fun e w' => ∃ g, e = .returned (.slice (some ⟨g, 0, none⟩) n n) ∧ Pr.Own w.heap.size w' g n (args.zip dir) ∧ Below w.heap.size w w' := by
  obtain ⟨i0, hi, hz0, hz1, hz2⟩ := info_parts infoP
  have HA := Lib.hid hA
  have HD := Lib.hid hD
  have HN := Lib.hid hn
  have HM := Lib.hid hd
  have HZL : Hid ((args.zip dir).length = n) := by show _ = _; rw [zip_len (by omega)]; exact hn
  clear hA hD hn hd
  go_enter Tryz.func80, Tryz.ntmps80
  go_wp2_with (refine wpList_make_full _ rfl _ _ 117 rfl w.heap.size 121 i0 (.agg #[.int .i64 0, .int .i64 0]) 2 Tryz.underlying117 hi hz0 hz1 .i64 .i64 _ _ n rfl rfl rfl rfl ?c2 ?c3 (Nat.le_refl _) ?_)
  case c2 => rw [hz2]; omega
  case c3 => unfold maxLen; omega
  intro w1 ho1 hg1
  have hb1 := (Below.refl w.heap.size w).grown hg1 (Nat.le_refl _) (by intro k hk; cases hk)
  have HO0 : Hid (Pr.Own w.heap.size w1 w.heap.size n (Pr.fillz n ((args.zip dir).take 0))) := Pr.made_own ho1
  have HB0 : Hid (Below w.heap.size w w1) := hb1
  clear ho1 hg1 hi hz0 hz1 hz2 hb1
  go_wp2_with fail
  go_loopw [6, 12] (fun _ x wr => ∃ i : Nat, i ≤ n ∧ x = .int .i64 i ∧ Hid (Pr.Own w.heap.size wr w.heap.size n (Pr.fillz n ((args.zip dir).take i))) ∧ Hid (Below w.heap.size w wr)) (fun _ x _ => n - (intOf x).toNat)
  case atStart => exact ⟨0, Nat.zero_le _, rfl, HO0.out, HB0.out⟩
  case round =>
    obtain ⟨i, hi, rfl, HO, HB⟩ := hrel
    clear HO0 HB0
    have hzl := HZL.out
    by_cases hlt : i < n
    · have hii : (i : Int) < (n : Int) := by omega
      have hn1 := HN.out
      have hm1 := HM.out
      obtain ⟨b1, o1, rfl, hbl1, hc1⟩ := ((HA.out.below HB.out (Nat.le_refl _)).resolve_left (by intro e; rw [e] at hn1; simp at hn1; omega))
      obtain ⟨b2, o2, rfl, hbl2, hc2⟩ := ((HD.out.below HB.out (Nat.le_refl _)).resolve_left (by intro e; rw [e] at hm1; simp at hm1; omega))
      have h1 := hc1 i (by omega)
      have h2 := hc2 i (by omega)
      have hlen : (Pr.fillz n ((args.zip dir).take i)).length = n := Pr.fillz_len (by rw [List.length_take]; omega)
      have hcs := HO.out.cell0 i (by rw [hlen]; exact hlt)
      have hcs1 := HO.out.cell1 i (by rw [hlen]; exact hlt)
      have hfr := HO.out.frz (i * 2)
      have hfr1 := HO.out.frz (i * 2 + 1)
      have hset := HO.out.set i (args.getD i 0, dir.getD i 0)
      have hs2 : (Pr.fillz n ((args.zip dir).take i)).set i (args.getD i 0, dir.getD i 0) = Pr.fillz n ((args.zip dir).take (i + 1)) := by
        have e := Pr.fillz_set (n := n) (xs := (args.zip dir).take i) (by rw [List.length_take]; omega) (args.getD i 0, dir.getD i 0)
        have e2 : ((args.zip dir).take i).length = i := by rw [List.length_take]; omega
        rw [e2] at e
        rw [e, zip_take (by omega) (by omega)]
      rw [hs2] at hset
      have HS := Lib.hid hset
      have HB2 : Hid (Below w.heap.size w ((wr.setCell ⟨w.heap.size, i * 2, none⟩ (.int .i64 (args.getD i 0))).setCell ⟨w.heap.size, i * 2 + 1, none⟩ (.int .i64 (dir.getD i 0)))) := (HB.out.setCell (p := ⟨w.heap.size, i * 2, none⟩) (Nat.le_refl _) _).setCell (p := ⟨w.heap.size, i * 2 + 1, none⟩) (Nat.le_refl _) _
      clear hset hs2 hlen hzl hn1 hm1 hc1 hc2 HO HB HA HD
      generalize (Pr.fillz n ((args.zip dir).take i)).getD i (0, 0) = z at hcs hcs1
      generalize args.getD i 0 = x at *
      generalize dir.getD i 0 = y at *
      go_wp2_with fail
      go_region
      all_goals go_wp2_with fail
      all_goals go_roundw
      case rel => exact ⟨i + 1, by omega, by go_num, HS.out.kept ((Below.refl _ _).drew) HS.out.base.2, HB2.out.drew⟩
      case measure => simp [intOf]; omega
    · have hii : ¬ (i : Int) < (n : Int) := by omega
      obtain rfl : i = n := by omega
      have HX : Hid (Pr.Own w.heap.size wr w.heap.size i (args.zip dir)) := by
        have := HO.out
        rw [List.take_of_length_le (by omega), Pr.fillz_full hzl] at this
        exact this
      clear hzl HO
      go_wp2_with fail
      go_ret
      exact ⟨w.heap.size, rfl, HX.out, HB.out⟩

theorem ownCells {B : Nat} {w : World} {g n : Nat} {l : List Int} (hn : l.length = n) (hB : B ≤ g) (hm : n ≤ maxLen) (h : w.heap[g]? = some (.cells (l.map (Value.int .i64)).toArray 2 (0, 0))) : Own B w g n l := by
  subst hn
  refine ⟨by simp, .inr ⟨g, l.length, _, rfl, hB, h, Nat.le_refl _, hm, by simp, ?_⟩⟩
  rw [List.take_of_length_le (by simp)]
theorem own_zeros {L : Nat} {w W : World} {n h : Nat} (hh : h = w.heap.size) (hL : L ≤ h) (hn : n ≤ maxLen) (hb : Below (h + 1) (w.alloc (.cells (madeCells #[Value.int .i64 0] n) 2)) W) : Own L W h n (fillz n []) := by
  subst hh
  have hc : (List.map (Value.int .i64) (fillz n [])).toArray = madeCells #[Value.int .i64 0] n := by
    rw [fillz_zero, List.map_replicate, ← toList_madeCells_one]
  refine ownCells (by rw [fillz_zero, List.length_replicate]) hL hn ?_
  rw [hb.block _ (Nat.lt_succ_self _), hc]
  exact heap_alloc_new _ _
set_option maxRecDepth 100000 in
set_option maxHeartbeats 3200000 in
theorem iPartsOf (a : Option Addr) (c n : Nat) (l : List IP) (hn : l.length = n) (hb : n ≤ 1048576) (w : World) (hA : Pr.At w a l) :
    Calls Tryz.prog 81 #[.slice a n c] w fun e w' => ∃ g h, e = .returned (.tuple #[.slice (some ⟨g, 0, none⟩) n n, .slice (some ⟨h, 0, none⟩) n n]) ∧ Own w.heap.size w' g n (l.map Prod.fst) ∧ Own w.heap.size w' h n (l.map Prod.snd) ∧ g ≠ h ∧ Below w.heap.size w w' := by
  obtain ⟨i0, hi, hz0, hz1, hz2⟩ := info_parts info64
  have HA := Lib.hid hA
  have HN := Lib.hid hn
  clear hA hn
  have hmk : ∀ w : World, (Instr.makeSlice 25 (.int .i64 (n : Int)) (.int .i64 (n : Int))).run Tryz.prog w = .ok (.slice (some ⟨w.heap.size, 0, none⟩) n n) (w.alloc (.cells (madeCells #[Value.int .i64 0] n) 2)) := by
    intro w
    have := run_make (P := Tryz.prog) w 25 2 i0 (.int .i64 0) Tryz.underlying25 hi hz0 .i64 .i64 n n (by omega) (Int.le_refl _) (by rw [hz2]; omega) (by omega)
    simp only [Int.toNat_natCast] at this
    rw [this]
    simp [Value.cells, hz1]
  clear hi hz0 hz1 hz2
  go_enter Tryz.func81, Tryz.ntmps81
  go_wp2_with fail
  go_cut [4, 5] from 8 to 14 (fun s4 s5 wx => ∃ g h, s4 = Value.slice (some ⟨g, 0, none⟩) n n ∧ s5 = Value.slice (some ⟨h, 0, none⟩) n n ∧ Hid (Own w.heap.size wx g n (fillz n [])) ∧ Hid (Own w.heap.size wx h n (fillz n [])) ∧ g ≠ h ∧ Below w.heap.size w wx)
  case first =>
    go_region
    all_goals
      go_wp2_with fail
      go_meet
      case rel =>
        have hb9 : Below w.heap.size w ((w.alloc (.cells (madeCells #[Value.int .i64 0] n) 2)).alloc (.cells (madeCells #[Value.int .i64 0] n) 2)).drew := (((Below.refl _ _).alloc (Nat.le_refl _) _).alloc (by simp) _).drew
        have o1 : Own w.heap.size ((w.alloc (.cells (madeCells #[Value.int .i64 0] n) 2)).alloc (.cells (madeCells #[Value.int .i64 0] n) 2)).drew w.heap.size n (fillz n []) := own_zeros rfl (Nat.le_refl _) (by unfold maxLen; omega) (((Below.refl _ _).alloc (by simp) _).drew)
        have o2 : Own w.heap.size ((w.alloc (.cells (madeCells #[Value.int .i64 0] n) 2)).alloc (.cells (madeCells #[Value.int .i64 0] n) 2)).drew (w.heap.size + 1) n (fillz n []) := own_zeros (w := w.alloc (.cells (madeCells #[Value.int .i64 0] n) 2)) (by simp) (by omega) (by unfold maxLen; omega) ((Below.refl _ _).drew)
        first
          | exact ⟨_, _, rfl, rfl, o1, o2, by omega, hb9⟩
          | exact ⟨_, _, rfl, rfl, o2, o1, by omega, hb9⟩
  case rest =>
    obtain ⟨g, h, rfl, rfl, HG, HH, hgh, hbw⟩ := hcut
    have HG0 := Lib.hid (show Own w.heap.size _ g n (fillz n ((l.map Prod.fst).take 0)) from HG.out)
    have HH0 := Lib.hid (show Own w.heap.size _ h n (fillz n ((l.map Prod.snd).take 0)) from HH.out)
    have HB0 := Lib.hid hbw
    have hg1 := HG.out.base
    have hh1 := HH.out.base
    clear HG HH hmk hbw
    go_wp2_with fail
    go_loopw [6, 16] (fun _ x wr => ∃ i : Nat, i ≤ n ∧ x = .int .i64 i ∧ Hid (Own w.heap.size wr g n (fillz n ((l.map Prod.fst).take i))) ∧ Hid (Own w.heap.size wr h n (fillz n ((l.map Prod.snd).take i))) ∧ Hid (Below w.heap.size w wr)) (fun _ x _ => n - (intOf x).toNat)
    case atStart => exact ⟨0, Nat.zero_le _, rfl, HG0.out, HH0.out, HB0.out⟩
    case round =>
      obtain ⟨i, hi, rfl, HG, HH, HB⟩ := hrel
      clear HG0 HH0 HB0
      have hln := HN.out
      by_cases hlt : i < n
      · have hii : (i : Int) < (n : Int) := by omega
        obtain ⟨b1, o1, rfl, hbl1, hc1⟩ := ((HA.out.below HB.out (Nat.le_refl _)).resolve_left (by intro e; rw [e] at hln; simp at hln; omega))
        obtain ⟨h1, h2⟩ := hc1 i (by omega)
        have sG : (fillz n ((l.map Prod.fst).take i)).set i (l.getD i (0, 0)).1 = fillz n ((l.map Prod.fst).take (i + 1)) := by
          have e := fillz_set (n := n) (xs := (l.map Prod.fst).take i) (by rw [List.length_take, List.length_map]; omega) (l.getD i (0, 0)).1
          have e2 : ((l.map Prod.fst).take i).length = i := by rw [List.length_take, List.length_map]; omega
          rw [e2] at e
          rw [e, List.take_add_one, List.getElem?_map, List.getD_eq_getElem?_getD, List.getElem?_eq_getElem (by omega)]; rfl
        have sH : (fillz n ((l.map Prod.snd).take i)).set i (l.getD i (0, 0)).2 = fillz n ((l.map Prod.snd).take (i + 1)) := by
          have e := fillz_set (n := n) (xs := (l.map Prod.snd).take i) (by rw [List.length_take, List.length_map]; omega) (l.getD i (0, 0)).2
          have e2 : ((l.map Prod.snd).take i).length = i := by rw [List.length_take, List.length_map]; omega
          rw [e2] at e
          rw [e, List.take_add_one, List.getElem?_map, List.getD_eq_getElem?_getD, List.getElem?_eq_getElem (by omega)]; rfl
        obtain ⟨w5, hw5⟩ : ∃ w5, wr.alloc (.cells #[.int .i64 (l.getD i (0, 0)).1, .int .i64 (l.getD i (0, 0)).2] 121) = w5 := ⟨_, rfl⟩
        have b5 : Below wr.heap.size wr w5 := by rw [← hw5]; exact (Below.refl _ _).alloc (Nat.le_refl _) _
        have d0 : w5.cell? ⟨wr.heap.size, 0, none⟩ = some (.int .i64 (l.getD i (0, 0)).1) := by rw [← hw5]; simp [go_sem]
        have d1 : w5.cell? ⟨wr.heap.size, 1, none⟩ = some (.int .i64 (l.getD i (0, 0)).2) := by rw [← hw5]; simp [go_sem]
        have oG := HG.out.kept b5 HG.out.base.2
        have oH := HH.out.kept b5 HH.out.base.2
        have gl := HG.out.base.2
        have hl := HH.out.base.2
        have cG := oG.cellAt i (by rw [fillz_len (by rw [List.length_take]; omega)]; exact hlt)
        have cH := oH.cellAt i (by rw [fillz_len (by rw [List.length_take]; omega)]; exact hlt)
        have fG := oG.frz i
        have fH := oH.frz i
        have HS1 : Hid (Own w.heap.size ((w5.setCell ⟨g, i, none⟩ (.int .i64 (l.getD i (0, 0)).1)).setCell ⟨h, i, none⟩ (.int .i64 (l.getD i (0, 0)).2)).drew g n (fillz n ((l.map Prod.fst).take (i + 1)))) := by
          have := oG.set i (l.getD i (0, 0)).1
          rw [sG] at this
          have := this.setOther (p := ⟨h, i, none⟩) (by show h ≠ g; omega) (.int .i64 (l.getD i (0, 0)).2)
          exact this.kept (Below.refl _ _).drew this.base.2
        have HS2 : Hid (Own w.heap.size ((w5.setCell ⟨g, i, none⟩ (.int .i64 (l.getD i (0, 0)).1)).setCell ⟨h, i, none⟩ (.int .i64 (l.getD i (0, 0)).2)).drew h n (fillz n ((l.map Prod.snd).take (i + 1)))) := by
          have := (oH.setOther (p := ⟨g, i, none⟩) (by show g ≠ h; omega) (.int .i64 (l.getD i (0, 0)).1)).set i (l.getD i (0, 0)).2
          rw [sH] at this
          exact this.kept (Below.refl _ _).drew this.base.2
        have HB2 : Hid (Below w.heap.size w ((w5.setCell ⟨g, i, none⟩ (.int .i64 (l.getD i (0, 0)).1)).setCell ⟨h, i, none⟩ (.int .i64 (l.getD i (0, 0)).2)).drew) := (((HB.out.trans (b5.mono HB.out.size)).setCell (p := ⟨g, i, none⟩) hg1.1 _).setCell (p := ⟨h, i, none⟩) hh1.1 _).drew
        clear sG sH oG oH HG HH HB HA hln hc1 b5
        generalize (fillz n ((l.map Prod.fst).take i)).getD i 0 = z1 at *
        generalize (fillz n ((l.map Prod.snd).take i)).getD i 0 = z2 at *
        generalize l.getD i (0, 0) = x at *
        go_wp2_with fail
        go_region
        all_goals go_wp2_with fail
        all_goals go_roundw
        case rel => exact ⟨i + 1, by omega, by go_num, HS1.out, HS2.out, HB2.out⟩
        case measure => simp [intOf]; omega
      · have hii : ¬ (i : Int) < (n : Int) := by omega
        obtain rfl : i = n := by omega
        have HX1 : Hid (Own w.heap.size wr g i (l.map Prod.fst)) := by
          have := HG.out
          rw [List.take_of_length_le (by rw [List.length_map]; omega), fillz_full (by rw [List.length_map]; omega)] at this
          exact this
        have HX2 : Hid (Own w.heap.size wr h i (l.map Prod.snd)) := by
          have := HH.out
          rw [List.take_of_length_le (by rw [List.length_map]; omega), fillz_full (by rw [List.length_map]; omega)] at this
          exact this
        clear hln HG HH
        go_wp2_with fail
        go_ret2
        exact ⟨g, h, rfl, HX1.out, HX2.out, hgh, HB.out⟩

end Go.Proofs.YtoedccgiahegnaaGreat

namespace Go.Proofs.YtoedccgiahegnaaGreat
open Go.RowKit
set_option linter.unusedVariables false

/-- values and slopes of the outputs of a function of a program, or none of them -/
def alL (fs : List Fn) (j : Nat) (args dir : List Int) : Rl IP := lisE pA (evE pA fs 3001) (fs.getD j noFn).outs (args.zip dir) 0 (fs.getD j noFn).outs.len

/-- the pairs that are answered -/
def evS (r : Rl IP) : List IP := if r.c = 0 then r.l else []
theorem evS_A (r : Rl IP) : (evS r).map Prod.fst = drA r := by unfold evS drA; split <;> rfl
theorem evS_B (r : Rl IP) : (evS r).map Prod.snd = drB r := by unfold evS drB; split <;> rfl
theorem evOne {w w' : World} {r : Rl IP} {e : Ending} (h : Pr.EvRes w r e w') : ∃ a s, e = .returned (.tuple #[.slice a (evS r).length (evS r).length, .int .i64 s, .int .i64 r.c]) ∧ Pr.At w' a (evS r) ∧ Below w.heap.size w w' := by
  rcases h with ⟨hb, ⟨hc, g, rfl, ho, hn⟩ | ⟨hc, rfl⟩⟩
  · have e : evS r = r.l := if_pos hc
    exact ⟨_, _, by rw [e, hc], by rw [e]; exact ho.at, hb⟩
  · have e : evS r = [] := if_neg hc
    exact ⟨none, 0, by rw [e]; rfl, .inl e, hb⟩
theorem drRes_of {w w' : World} {r : Rl IP} {g h n : Nat} (hn : (evS r).length = n) (h1 : Own w.heap.size w' g n ((evS r).map Prod.fst)) (h2 : Own w.heap.size w' h n ((evS r).map Prod.snd)) (hne : g ≠ h) (hb : Below w.heap.size w w') :
    DrRes w r (.returned (.tuple #[.slice (some ⟨g, 0, none⟩) n n, .slice (some ⟨h, 0, none⟩) n n, .int .i64 r.c])) w' := by
  rw [evS_A] at h1
  rw [evS_B] at h2
  have l1 : (drA r).length = n := by rw [← evS_A, List.length_map, hn]
  have l2 : (drB r).length = n := by rw [← evS_B, List.length_map, hn]
  refine ⟨_, n, _, n, by rw [l1, l2], h1.a, h2.a, ?_, hb⟩
  intro a b ha hb
  have e1 := blk_eqE ha
  have e2 := blk_eqE hb
  omega

set_option maxRecDepth 100000 in
set_option maxHeartbeats 3200000 in
theorem iAlong (fs : List Fn) (ap : Option Addr) (capp : Nat) (j : Nat) (af : Option Addr) (cf : Nat) (aa da : Option Addr) (ca cd n : Nat) (args dir : List Int) (w : World)
    (hpb : progB fs = true) (hj : j < fs.length) (hfl : fs.length ≤ 1048576) (hP : Pat w 0 w.heap.size fs ap) (hFo : Fat w 0 w.heap.size (fs.getD j noFn).outs af) (hA : At w aa args) (hN : Nums args) (hD : At w da dir) (hM : Nums dir) (hal : (args.length : Int) = (fs.getD j noFn).params) (hn : args.length = n) (hd : dir.length = n) (hca : n ≤ ca) (hca2 : ca ≤ 9223372036854775807) :
    Calls Tryz.prog 47 #[.agg #[ofN, .slice ap fs.length capp, .string (fs.getD j noFn).name, .int .i64 (fs.getD j noFn).params, .slice af (fs.getD j noFn).outs.len cf, .slice aa n ca], .slice da n cd] w (DrRes w (alL fs j args dir)) := by
  obtain ⟨g1, g2, g3⟩ := fn_parts (progB_fn hpb hj)
  obtain ⟨w1, hw1⟩ : ∃ w1, w.alloc (.cells #[ofN, .slice ap fs.length capp, .string (fs.getD j noFn).name, .int .i64 (fs.getD j noFn).params, .slice af (fs.getD j noFn).outs.len cf, .slice aa n ca] 65) = w1 := ⟨_, rfl⟩
  have b1 : Below w.heap.size w w1 := by rw [← hw1]; exact (Below.refl _ _).alloc (Nat.le_refl _) _
  have p0 : w1.cell? ⟨w.heap.size, 0, none⟩ = some (ofN) := by rw [← hw1]; simp [go_sem]
  have p1 : w1.cell? ⟨w.heap.size, 1, none⟩ = some (.slice ap fs.length capp) := by rw [← hw1]; simp [go_sem]
  have p2 : w1.cell? ⟨w.heap.size, 2, none⟩ = some (.string (fs.getD j noFn).name) := by rw [← hw1]; simp [go_sem]
  have p3 : w1.cell? ⟨w.heap.size, 3, none⟩ = some (.int .i64 (fs.getD j noFn).params) := by rw [← hw1]; simp [go_sem]
  have p4 : w1.cell? ⟨w.heap.size, 4, none⟩ = some (.slice af (fs.getD j noFn).outs.len cf) := by rw [← hw1]; simp [go_sem]
  have p5 : w1.cell? ⟨w.heap.size, 5, none⟩ = some (.slice aa n ca) := by rw [← hw1]; simp [go_sem]
  have hb : n ≤ 1048576 := by omega
  have HPA := fun (W : World) (hW : Below w1.heap.size w1 W) => Lib.hid (iPairsOf aa da ca cd n args dir hn hd hb W ((hA.below b1 (Nat.le_refl _)).below hW (Nat.le_refl _)) ((hD.below b1 (Nat.le_refl _)).below hW (Nat.le_refl _)))
  have hzl := zip_len (l := args) (m := dir) (by omega)
  have HEV := fun (W : World) (g : Nat) (hW : Below w1.heap.size w1 W) (ho : Pr.Own w1.heap.size W g n (args.zip dir)) => Lib.hid (show Calls Tryz.prog 79 #[ofP, .slice ap fs.length capp, .agg #[.string (fs.getD j noFn).name, .int .i64 (fs.getD j noFn).params, .slice af (fs.getD j noFn).outs.len cf], .slice (some ⟨g, 0, none⟩) n n] W (Pr.EvRes W (alL fs j args dir)) from by
    have hbW : Below w.heap.size w W := b1.trans (hW.mono b1.size)
    have h := Pr.iEvaluateN fs ap capp j af cf (some ⟨g, 0, none⟩) n (args.zip dir) W hpb hj hfl ((hP.below hbW).mono (Nat.le_refl _) hbW.size) ((hFo.agree (fun i _ h2 => hbW.block i h2)).mono (Nat.le_refl _) hbW.size) ho.at (zip_nums (by omega) hN hM) (by rw [hzl]; exact hal) (by omega) (by omega)
    rw [hzl, hn] at h
    exact h)
  clear hP hFo hA hD hN hM hpb g1 g3 hal hzl hn hd
  have HLE : Hid ((evS (alL fs j args dir)).length ≤ 1048576) := by
    show _ ≤ _
    unfold evS
    split
    · rename_i hc
      have := lisE_len (A := pA) (E := evE pA fs 3001) (f := (fs.getD j noFn).outs) (vars := args.zip dir) (s := 0) _ hc
      have h2 : (alL fs j args dir).l.length = (fs.getD j noFn).outs.len := this
      rw [h2]; have := g2.2; omega
    · simp
  generalize alL fs j args dir = r at *
  clear g2
  generalize (fs.getD j noFn).name = nm at *
  generalize (fs.getD j noFn).params = pa at *
  generalize (fs.getD j noFn).outs.len = mo at *
  go_enter Tryz.func47, Tryz.ntmps47
  go_wp2_with fail
  clear hw1
  have hev : (evS r).length ≤ 1048576 := HLE.out
  have l0 := cell_lt p0
  have HX : Hid (∀ W, Below w1.heap.size w1 W → W.cell? ⟨w.heap.size, 0, none⟩ = some ofN ∧ W.cell? ⟨w.heap.size, 1, none⟩ = some (.slice ap fs.length capp) ∧ W.cell? ⟨w.heap.size, 2, none⟩ = some (.string nm) ∧ W.cell? ⟨w.heap.size, 3, none⟩ = some (.int .i64 pa) ∧ W.cell? ⟨w.heap.size, 4, none⟩ = some (.slice af mo cf) ∧ W.cell? ⟨w.heap.size, 5, none⟩ = some (.slice aa n ca)) := by
    intro W hW
    exact ⟨(hW.cell (p := ⟨w.heap.size, 0, none⟩) l0).trans p0, (hW.cell (p := ⟨w.heap.size, 1, none⟩) l0).trans p1, (hW.cell (p := ⟨w.heap.size, 2, none⟩) l0).trans p2, (hW.cell (p := ⟨w.heap.size, 3, none⟩) l0).trans p3, (hW.cell (p := ⟨w.heap.size, 4, none⟩) l0).trans p4, (hW.cell (p := ⟨w.heap.size, 5, none⟩) l0).trans p5⟩
  go_region_held3 (fun w' => w'.cell? ⟨w.heap.size, 0, none⟩ = some ofN ∧ w'.cell? ⟨w.heap.size, 1, none⟩ = some (.slice ap fs.length capp) ∧ w'.cell? ⟨w.heap.size, 2, none⟩ = some (.string nm) ∧ w'.cell? ⟨w.heap.size, 3, none⟩ = some (.int .i64 pa) ∧ w'.cell? ⟨w.heap.size, 4, none⟩ = some (.slice af mo cf) ∧ w'.cell? ⟨w.heap.size, 5, none⟩ = some (.slice aa n ca))
    (first
      | with_reducible exact ⟨p0, p1, p2, p3, p4, p5⟩
      | with_reducible exact HX.out _ b4
      | with_reducible exact HX.out _ b3
      | go_keep)
    (first
      | (go_at_call 79; refine (HEV w3 g b3 ho).out.mono ?_; intro e w4 hres; obtain ⟨a4, s4, rfl, hat, b4'⟩ := evOne hres; have b4 : Below w1.heap.size w1 w4 := b3.trans (b4'.mono b3.size))
      | (go_at_call 80; refine (HPA _ (below_drew (Below.refl _ _))).out.mono ?_; rintro e w3 ⟨g, rfl, ho', b3'⟩; have b3 : Below w1.heap.size w1 w3 := ⟨b3'.os, b3'.tape, b3'.output, b3'.size, b3'.block⟩; have ho : Pr.Own w1.heap.size w3 g n (args.zip dir) := ho'))
  all_goals
    have hB4 := b1.trans (b4.mono b1.size)
    clear HPA HEV HX p0 p1 p2 p3 p4 p5
    go_wp2_with fail
    refine (iPartsOf a4 _ _ (evS r) rfl hev _ hat).mono ?_; rintro e w5 ⟨g5, h5, rfl, o1, o2, hne, b5⟩
    have hs4 := hB4.size
    go_wp2_with fail
    go_ret3
    exact drRes_of rfl (o1.mono hs4) (o2.mono hs4) hne (hB4.trans (b5.mono hs4))

end Go.Proofs.YtoedccgiahegnaaGreat

namespace Go.Proofs.YtoedccgiahegnaaGreat
open Go.RowKit
set_option linter.unusedVariables false

def unitV (n k : Nat) : List Int := (List.replicate n 0).set k 1
theorem unitV_len (n k : Nat) : (unitV n k).length = n := by simp [unitV]
theorem unitV_nums (n k : Nat) : Nums (unitV n k) := by
  intro y hy
  unfold unitV at hy
  rcases List.mem_or_eq_of_mem_set hy with hy | rfl
  · have := List.eq_of_mem_replicate hy; omega
  · omega
set_option maxRecDepth 100000 in
set_option maxHeartbeats 1600000 in
theorem iUnit (n k : Nat) (hk : k < n) (hb : n ≤ 1048576) (w : World) :
    Calls Tryz.prog 51 #[.int .i64 n, .int .i64 k] w fun e w' => ∃ g, e = .returned (.slice (some ⟨g, 0, none⟩) n n) ∧ Own w.heap.size w' g n (unitV n k) ∧ Below w.heap.size w w' := by
  obtain ⟨i0, hi, hz0, hz1, hz2⟩ := info_parts info64
  go_enter Tryz.func51, Tryz.ntmps51
  go_wp2_with (refine wpList_make_full _ rfl _ _ 25 rfl w.heap.size 2 i0 (.int .i64 0) 1 Tryz.underlying25 hi hz0 hz1 .i64 .i64 _ _ n rfl rfl rfl rfl ?c2 ?c3 (Nat.le_refl _) ?_)
  case c2 => rw [hz2]; omega
  case c3 => unfold maxLen; omega
  intro w1 ho1 hg1
  have hb1 := (Below.refl w.heap.size w).grown hg1 (Nat.le_refl _) (by intro k hk; cases hk)
  have ho2 := made_own ho1
  have hl : (fillz n ([] : List Int)).length = n := fillz_len (by simp)
  have hcs := ho2.cellAt k (by rw [hl]; exact hk)
  have hfr := ho2.frz k
  have HS := Lib.hid (ho2.set k 1)
  have hi1 : (k : Int) < (n : Int) := by omega
  have HB : Hid (Below w.heap.size w (w1.setCell ⟨w.heap.size, k, none⟩ (.int .i64 1))) := hb1.setCell (p := ⟨w.heap.size, k, none⟩) (Nat.le_refl _) _
  have HU : Hid ((fillz n ([] : List Int)).set k 1 = unitV n k) := by show _ = _; simp [fillz, unitV]
  clear ho1 hg1 hi hz0 hz1 hz2 ho2 hb1 hl
  generalize (fillz n ([] : List Int)).getD k 0 = z at hcs
  go_wp2_with fail
  go_ret
  exact ⟨w.heap.size, rfl, by rw [← HU.out]; exact HS.out, HB.out⟩

end Go.Proofs.YtoedccgiahegnaaGreat

namespace Go.Proofs.YtoedccgiahegnaaGreat
open Go.RowKit
set_option linter.unusedVariables false

set_option maxRecDepth 100000 in
theorem pHasDir (da : Option Addr) (cd : Nat) (dir : List Int) (ap : Option Addr) (fl capp : Nat) (nm : ByteArray) (pa : Int) (af : Option Addr) (mo cf : Nat) (aa : Option Addr) (al ca : Nat) (w : World) (hD : At w da dir) (hdl : dir.length ≤ 1048576) :
    Calls Tryz.prog 46 #[.agg #[ofN, .slice ap fl capp, .string nm, .int .i64 pa, .slice af mo cf, .slice aa al ca], .slice da dir.length cd] w fun e w' => e = .returned (.bool (areB dir pa)) ∧ Below w.heap.size w w' := by
  have b1 : Below w.heap.size w (w.alloc (.cells #[ofN, .slice ap fl capp, .string nm, .int .i64 pa, .slice af mo cf, .slice aa al ca] 67)) := (Below.refl _ _).alloc (Nat.le_refl _) _
  have HC := Lib.hid (iAre da cd dir pa (w.alloc (.cells #[ofN, .slice ap fl capp, .string nm, .int .i64 pa, .slice af mo cf, .slice aa al ca] 67)) (hD.below b1 (Nat.le_refl _)) hdl)
  generalize (areB dir pa) = bb at *
  go_enter Tryz.func46, Tryz.ntmps46
  go_wp2_with fail
  refine HC.out.mono ?_; rintro e w' ⟨rfl, rfl⟩
  go_wp2_with fail
  go_ret
  exact ⟨rfl, b1⟩
set_option maxRecDepth 100000 in
theorem pHasOut (pick : Int) (ap : Option Addr) (fl capp : Nat) (nm : ByteArray) (pa : Int) (af : Option Addr) (mo cf : Nat) (aa : Option Addr) (al ca : Nat) (w : World) :
    Calls Tryz.prog 55 #[.agg #[ofN, .slice ap fl capp, .string nm, .int .i64 pa, .slice af mo cf, .slice aa al ca], .int .i64 pick] w fun e w' => e = .returned (.bool (decide (0 ≤ pick ∧ pick < (mo : Int)))) ∧ Below w.heap.size w w' := by
  have b1 : Below w.heap.size w (w.alloc (.cells #[ofN, .slice ap fl capp, .string nm, .int .i64 pa, .slice af mo cf, .slice aa al ca] 67)) := (Below.refl _ _).alloc (Nat.le_refl _) _
  have HC := Lib.hid (iIndex pick (mo : Int) (w.alloc (.cells #[ofN, .slice ap fl capp, .string nm, .int .i64 pa, .slice af mo cf, .slice aa al ca] 67)))
  generalize (decide (0 ≤ pick ∧ pick < (mo : Int))) = bb at *
  go_enter Tryz.func55, Tryz.ntmps55
  go_wp2_with fail
  refine HC.out.mono ?_; rintro e w' ⟨rfl, rfl⟩
  go_wp2_with fail
  go_ret
  exact ⟨rfl, b1⟩
set_option maxRecDepth 100000 in
theorem pHasParam (param : Int) (ap : Option Addr) (fl capp : Nat) (nm : ByteArray) (pa : Int) (af : Option Addr) (mo cf : Nat) (aa : Option Addr) (al ca : Nat) (w : World) :
    Calls Tryz.prog 50 #[.agg #[ofN, .slice ap fl capp, .string nm, .int .i64 pa, .slice af mo cf, .slice aa al ca], .int .i64 param] w fun e w' => e = .returned (.bool (decide (0 ≤ param ∧ param < pa))) ∧ Below w.heap.size w w' := by
  obtain ⟨w1, hw1⟩ : ∃ w1, w1 = w.alloc (.cells #[ofN, .slice ap fl capp, .string nm, .int .i64 pa, .slice af mo cf, .slice aa al ca] 67) := ⟨_, rfl⟩
  have b1 : Below w.heap.size w w1 := by rw [hw1]; exact (Below.refl _ _).alloc (Nat.le_refl _) _
  have HC := Lib.hid (iIndex param pa w1)
  generalize (decide (0 ≤ param ∧ param < pa)) = bb at *
  go_enter Tryz.func50, Tryz.ntmps50
  go_wp2_with fail
  rw [← hw1]
  clear hw1
  refine HC.out.mono ?_; rintro e w' ⟨rfl, rfl⟩
  go_wp2_with fail
  go_ret
  exact ⟨rfl, b1⟩
set_option maxRecDepth 100000 in
theorem pUpTo (n : Int) (w : World) : Calls Tryz.prog 56 #[.int .i64 n] w fun e w' => e = .returned (.bool (decide (0 ≤ n ∧ n < 13))) ∧ w = w' := by
  have HC := Lib.hid (iIndex n 13 w)
  generalize decide (0 ≤ n ∧ n < 13) = bb at *
  go_enter Tryz.func56, Tryz.ntmps56
  go_wp2_with fail
  refine HC.out.mono ?_; rintro e w' ⟨rfl, rfl⟩
  go_wp2_with fail
  go_ret
  exact ⟨rfl, rfl⟩

set_option maxRecDepth 100000 in
set_option maxHeartbeats 6400000 in
theorem iDirectional (fs : List Fn) (ap : Option Addr) (capp : Nat) (f : Int) (aa da : Option Addr) (ca cd : Nat) (args dir : List Int) (w : World) (hP : Pat w 0 w.heap.size fs ap) (hsz : pgSize fs ≤ 1048576) (hcap : fs.length ≤ capp) (hcm : capp ≤ 1048576) (hA : At w aa args) (hal : args.length ≤ 1048576) (hca : args.length ≤ ca) (hca2 : ca ≤ 9223372036854775807) (hD : At w da dir) (hdl : dir.length ≤ 1048576) :
    Calls Tryz.prog 21 #[.agg #[.slice ap fs.length capp], .int .i64 f, .slice aa args.length ca, .slice da dir.length cd] w (DrRes w (drL fs f args dir)) := by
  have hfl : fs.length ≤ 1048576 := by unfold pgSize at hsz; omega
  obtain ⟨w0, hw0⟩ : ∃ w0, w0 = w.alloc (.cells #[.slice ap fs.length capp] 31) := ⟨_, rfl⟩
  have hb0 : Below w.heap.size w w0 := by rw [hw0]; exact (Below.refl _ _).alloc (Nat.le_refl _) _
  have c0 : w0.cell? ⟨w.heap.size, 0, none⟩ = some (.slice ap fs.length capp) := by rw [hw0]; simp [go_sem]
  have P0 := (hP.below hb0).mono (Nat.le_refl _) hb0.size
  have A0 := hA.below hb0 (Nat.le_refl _)
  have HF := Lib.hid (iPlaceOf fs ap capp f aa ca args w0 P0 hsz hcap hcm A0 hal)
  have HP := Lib.hid P0
  have HA := Lib.hid A0
  have HD := Lib.hid (hD.below hb0 (Nat.le_refl _))
  clear hP hA P0 A0 hD
  go_enter Tryz.func21, Tryz.ntmps21
  go_wp2_with fail
  rw [← hw0]
  clear hw0
  refine HF.out.mono ?_; rintro e w1 ⟨hb1, ⟨hn, rfl⟩ | ⟨hy, hfa, hab, af, cf, rfl, hFo⟩⟩
  · have hB1 := hb0.trans (hb1.mono hb0.size)
    have hbf : (plC fs f args != 0) = true := by simp [hn]
    have hdr : drC fs f args dir = plC fs f args := if_neg hn
    have HX : Hid (drL fs f args dir = ⟨[], 0, plC fs f args⟩) := by show _ = _; rw [drL_no (by rw [hdr]; exact hn), hdr]
    have HN := Lib.hid hn
    have hs1 := hB1.size
    clear HF HP HA HD hn hdr
    generalize plC fs f args = pc at *
    go_wp2_with fail
    go_ret3
    rw [HX.out]
    exact DrRes.fail HN.out (hB1.alloc hs1 _)
  · have hB1 := hb0.trans (hb1.mono hb0.size)
    obtain ⟨hp1, hf1, hf2⟩ := hfa
    obtain ⟨j, rfl⟩ := Int.eq_ofNat_of_zero_le hf1
    have ej : (j : Int).toNat = j := rfl
    rw [ej] at hab hFo ⊢
    have hj : j < fs.length := by omega
    have hln := areB_ln hab
    have hnm := areB_nm hab
    have hs1 := hb1.size
    obtain ⟨w2, hw2⟩ : ∃ w2, w2 = w1.alloc (.cells #[ofN, .slice ap fs.length capp, .string (fs.getD j noFn).name, .int .i64 (fs.getD j noFn).params, .slice af (fs.getD j noFn).outs.len cf, .slice aa args.length ca] 67) := ⟨_, rfl⟩
    have b2 : Below w1.heap.size w1 w2 := by rw [hw2]; exact (Below.refl _ _).alloc (Nat.le_refl _) _
    have p0 : w2.cell? ⟨w1.heap.size, 0, none⟩ = some (ofN) := by rw [hw2]; simp [go_sem]
    have p1 : w2.cell? ⟨w1.heap.size, 1, none⟩ = some (.slice ap fs.length capp) := by rw [hw2]; simp [go_sem]
    have p2 : w2.cell? ⟨w1.heap.size, 2, none⟩ = some (.string (fs.getD j noFn).name) := by rw [hw2]; simp [go_sem]
    have p3 : w2.cell? ⟨w1.heap.size, 3, none⟩ = some (.int .i64 (fs.getD j noFn).params) := by rw [hw2]; simp [go_sem]
    have p4 : w2.cell? ⟨w1.heap.size, 4, none⟩ = some (.slice af (fs.getD j noFn).outs.len cf) := by rw [hw2]; simp [go_sem]
    have p5 : w2.cell? ⟨w1.heap.size, 5, none⟩ = some (.slice aa args.length ca) := by rw [hw2]; simp [go_sem]
    have hb12 := hb1.trans (b2.mono hs1)
    have hB2 := hB1.trans (b2.mono hB1.size)
    have hDR : Hid (drC fs (j : Int) args dir = if areB dir (fs.getD j noFn).params = true then 0 else 2) := if_pos hy
    have HBAD : Hid (¬ areB dir (fs.getD j noFn).params = true → drL fs (j : Int) args dir = ⟨[], 0, 2⟩) := fun h => by
      have e : drC fs (j : Int) args dir = 2 := by rw [hDR.out, if_neg h]
      rw [drL_no (by rw [e]; decide), e]
    have HDI := Lib.hid (pHasDir da cd dir ap fs.length capp (fs.getD j noFn).name (fs.getD j noFn).params af (fs.getD j noFn).outs.len cf aa args.length ca w2 (HD.out.below hb12 (Nat.le_refl _)) hdl)
    have HCO := fun (W : World) (hW : Below w2.heap.size w2 W) (hd : areB dir (fs.getD j noFn).params = true) => Lib.hid (show Calls Tryz.prog 47 #[.agg #[ofN, .slice ap fs.length capp, .string (fs.getD j noFn).name, .int .i64 (fs.getD j noFn).params, .slice af (fs.getD j noFn).outs.len cf, .slice aa args.length ca], .slice da dir.length cd] W (DrRes W (drL fs (j : Int) args dir)) from by
      have hbW : Below w0.heap.size w0 W := hb12.trans (hW.mono hb12.size)
      have e : drL fs (j : Int) args dir = alL fs j args dir := drL_yes (by rw [hDR.out, if_pos hd])
      have hdl2 : dir.length = args.length := by have := areB_ln hd; omega
      rw [e, hdl2]
      exact iAlong fs ap capp j af cf aa da ca cd args.length args dir W hp1 hj hfl ((HP.out.below hbW).mono (Nat.le_refl _) hbW.size) ((hFo.agree (fun i _ h2 => hbW.block i h2)).mono (Nat.le_refl _) hbW.size) (HA.out.below hbW (Nat.le_refl _)) hnm (HD.out.below hbW (Nat.le_refl _)) (areB_nm hd) hln rfl hdl2 hca hca2)
    clear HF HP HA HD hDR hFo hab hln hnm hy hp1 hf1 hf2 hb12 hb1
    obtain ⟨R, hR⟩ : ∃ R, drL fs (j : Int) args dir = R := ⟨_, rfl⟩
    rw [hR] at HBAD HCO
    have HRQ := Lib.hid hR
    clear hR
    generalize (fs.getD j noFn).name = nm at *
    generalize (fs.getD j noFn).params = pa at *
    generalize (fs.getD j noFn).outs.len = mo at *
    go_wp2_with fail
    rw [← hw2]
    clear hw2
    cases hq : areB dir pa with
    | false =>
      rw [hq] at HDI
      have HX := Lib.hid (HBAD.out (by rw [hq]; decide))
      clear HBAD HCO hq
      refine HDI.out.mono ?_; rintro e w4 ⟨rfl, b4⟩
      have B4 := hB2.trans (b4.mono hB2.size)
      go_wp2_with fail
      go_ret3
      rw [HRQ.out, HX.out]
      exact DrRes.fail (show ¬ (2 : Int) = 0 by decide) B4
    | true =>
      rw [hq] at HDI
      have HC4 := fun (W : World) (hW : Below w2.heap.size w2 W) => HCO W hW hq
      clear HBAD HCO hq
      refine HDI.out.mono ?_; rintro e w4 ⟨rfl, b4⟩
      have B4 := hB2.trans (b4.mono hB2.size)
      have HC5 := HC4 w4 b4
      replace p0 := (b4.cell (p := ⟨w1.heap.size, 0, none⟩) (cell_lt p0)).trans p0
      replace p1 := (b4.cell (p := ⟨w1.heap.size, 1, none⟩) (cell_lt p1)).trans p1
      replace p2 := (b4.cell (p := ⟨w1.heap.size, 2, none⟩) (cell_lt p2)).trans p2
      replace p3 := (b4.cell (p := ⟨w1.heap.size, 3, none⟩) (cell_lt p3)).trans p3
      replace p4 := (b4.cell (p := ⟨w1.heap.size, 4, none⟩) (cell_lt p4)).trans p4
      replace p5 := (b4.cell (p := ⟨w1.heap.size, 5, none⟩) (cell_lt p5)).trans p5
      clear HC4
      go_wp2_with fail
      refine HC5.out.mono ?_; intro e w6 hres
      have HRR := Lib.hid (hres.from B4)
      obtain ⟨a6, c6, b6, d6, rfl, _⟩ := hres
      go_wp2_with fail
      go_ret3
      rw [HRQ.out]
      exact HRR.out

end Go.Proofs.YtoedccgiahegnaaGreat

namespace Go.Proofs.YtoedccgiahegnaaGreat
open Go.RowKit
set_option linter.unusedVariables false

/-- a list of its own and a code are answered -/
def LcRes (w : World) (L : List Int) (c : Int) (e : Ending) (w' : World) : Prop := ∃ a ca, e = .returned (.tuple #[.slice a L.length ca, .int .i64 c]) ∧ OwnA w.heap.size w' a ca L ∧ Below w.heap.size w w'
theorem LcRes.fail {w w' : World} {r : Rl IP} {a : Option Addr} {ca : Nat} (h : ¬ r.c = 0) (hb : Below w.heap.size w w') : LcRes w (drB r) r.c (.returned (.tuple #[.slice a 0 ca, .int .i64 r.c])) w' :=
  ⟨a, ca, by rw [drB_no h]; rfl, .inl (drB_no h), hb⟩
/-- the code for a place and a parameter -/
def paC (fs : List Fn) (f param : Int) (args : List Int) : Int := if plC fs f args = 0 then (if 0 ≤ param ∧ param < (fs.getD f.toNat noFn).params then 0 else 2) else plC fs f args
def paL (fs : List Fn) (f param : Int) (args : List Int) : Rl IP := if paC fs f param args = 0 then alL fs f.toNat args (unitV args.length param.toNat) else ⟨[], 0, paC fs f param args⟩
theorem paL_no {fs : List Fn} {f param : Int} {args : List Int} (h : ¬ paC fs f param args = 0) : paL fs f param args = ⟨[], 0, paC fs f param args⟩ := if_neg h
theorem paL_yes {fs : List Fn} {f param : Int} {args : List Int} (h : paC fs f param args = 0) : paL fs f param args = alL fs f.toNat args (unitV args.length param.toNat) := if_pos h

set_option maxRecDepth 100000 in
set_option maxHeartbeats 6400000 in
theorem iPartial (fs : List Fn) (ap : Option Addr) (capp : Nat) (f param : Int) (aa : Option Addr) (ca : Nat) (args : List Int) (w : World) (hP : Pat w 0 w.heap.size fs ap) (hsz : pgSize fs ≤ 1048576) (hcap : fs.length ≤ capp) (hcm : capp ≤ 1048576) (hA : At w aa args) (hal : args.length ≤ 1048576) (hca : args.length ≤ ca) (hca2 : ca ≤ 9223372036854775807) :
    Calls Tryz.prog 23 #[.agg #[.slice ap fs.length capp], .int .i64 f, .int .i64 param, .slice aa args.length ca] w (LcRes w (drB (paL fs f param args)) (paL fs f param args).c) := by
  have hfl : fs.length ≤ 1048576 := by unfold pgSize at hsz; omega
  obtain ⟨w0, hw0⟩ : ∃ w0, w0 = w.alloc (.cells #[.slice ap fs.length capp] 31) := ⟨_, rfl⟩
  have hb0 : Below w.heap.size w w0 := by rw [hw0]; exact (Below.refl _ _).alloc (Nat.le_refl _) _
  have c0 : w0.cell? ⟨w.heap.size, 0, none⟩ = some (.slice ap fs.length capp) := by rw [hw0]; simp [go_sem]
  have P0 := (hP.below hb0).mono (Nat.le_refl _) hb0.size
  have A0 := hA.below hb0 (Nat.le_refl _)
  have HF := Lib.hid (iPlaceOf fs ap capp f aa ca args w0 P0 hsz hcap hcm A0 hal)
  have HP := Lib.hid P0
  have HA := Lib.hid A0
  clear hP hA P0 A0
  go_enter Tryz.func23, Tryz.ntmps23
  go_wp2_with fail
  rw [← hw0]
  clear hw0
  refine HF.out.mono ?_; rintro e w1 ⟨hb1, ⟨hn, rfl⟩ | ⟨hy, hfa, hab, af, cf, rfl, hFo⟩⟩
  · have hB1 := hb0.trans (hb1.mono hb0.size)
    have hbf : (plC fs f args != 0) = true := by simp [hn]
    have hdr : paC fs f param args = plC fs f args := if_neg hn
    have HX : Hid (paL fs f param args = ⟨[], 0, plC fs f args⟩) := by show _ = _; rw [paL_no (by rw [hdr]; exact hn), hdr]
    have HN := Lib.hid hn
    have hs1 := hB1.size
    clear HF HP HA hn hdr
    generalize plC fs f args = pc at *
    go_wp2_with fail
    go_ret2
    rw [HX.out]
    exact LcRes.fail HN.out (hB1.alloc hs1 _)
  · have hB1 := hb0.trans (hb1.mono hb0.size)
    obtain ⟨hp1, hf1, hf2⟩ := hfa
    obtain ⟨j, rfl⟩ := Int.eq_ofNat_of_zero_le hf1
    have ej : (j : Int).toNat = j := rfl
    rw [ej] at hab hFo ⊢
    have hj : j < fs.length := by omega
    have hln := areB_ln hab
    have hnm := areB_nm hab
    have hs1 := hb1.size
    obtain ⟨w2, hw2⟩ : ∃ w2, w2 = w1.alloc (.cells #[ofN, .slice ap fs.length capp, .string (fs.getD j noFn).name, .int .i64 (fs.getD j noFn).params, .slice af (fs.getD j noFn).outs.len cf, .slice aa args.length ca] 67) := ⟨_, rfl⟩
    have b2 : Below w1.heap.size w1 w2 := by rw [hw2]; exact (Below.refl _ _).alloc (Nat.le_refl _) _
    have p0 : w2.cell? ⟨w1.heap.size, 0, none⟩ = some (ofN) := by rw [hw2]; simp [go_sem]
    have p1 : w2.cell? ⟨w1.heap.size, 1, none⟩ = some (.slice ap fs.length capp) := by rw [hw2]; simp [go_sem]
    have p2 : w2.cell? ⟨w1.heap.size, 2, none⟩ = some (.string (fs.getD j noFn).name) := by rw [hw2]; simp [go_sem]
    have p3 : w2.cell? ⟨w1.heap.size, 3, none⟩ = some (.int .i64 (fs.getD j noFn).params) := by rw [hw2]; simp [go_sem]
    have p4 : w2.cell? ⟨w1.heap.size, 4, none⟩ = some (.slice af (fs.getD j noFn).outs.len cf) := by rw [hw2]; simp [go_sem]
    have p5 : w2.cell? ⟨w1.heap.size, 5, none⟩ = some (.slice aa args.length ca) := by rw [hw2]; simp [go_sem]
    have hb12 := hb1.trans (b2.mono hs1)
    have hB2 := hB1.trans (b2.mono hB1.size)
    have hDR : Hid (paC fs (j : Int) param args = if 0 ≤ param ∧ param < (fs.getD j noFn).params then 0 else 2) := if_pos hy
    have HBAD : Hid (¬ (0 ≤ param ∧ param < (fs.getD j noFn).params) → paL fs (j : Int) param args = ⟨[], 0, 2⟩) := fun h => by
      have e : paC fs (j : Int) param args = 2 := by rw [hDR.out, if_neg h]
      rw [paL_no (by rw [e]; decide), e]
    have HDI := Lib.hid (pHasParam param ap fs.length capp (fs.getD j noFn).name (fs.getD j noFn).params af (fs.getD j noFn).outs.len cf aa args.length ca w2)
    have HU := fun (W : World) (hd : 0 ≤ param ∧ param < (fs.getD j noFn).params) => Lib.hid (show Calls Tryz.prog 51 #[.int .i64 (fs.getD j noFn).params, .int .i64 param] W (fun e w' => ∃ g, e = .returned (.slice (some ⟨g, 0, none⟩) args.length args.length) ∧ Own W.heap.size w' g args.length (unitV args.length param.toNat) ∧ Below W.heap.size W w') from by
      obtain ⟨q, rfl⟩ := Int.eq_ofNat_of_zero_le hd.1
      rw [← hln]
      exact iUnit args.length q (by omega) hal W)
    have HCO := fun (W : World) (hW : Below w2.heap.size w2 W) (hd : 0 ≤ param ∧ param < (fs.getD j noFn).params) (g : Nat) (ho : Own w2.heap.size W g args.length (unitV args.length param.toNat)) => Lib.hid (show Calls Tryz.prog 47 #[.agg #[ofN, .slice ap fs.length capp, .string (fs.getD j noFn).name, .int .i64 (fs.getD j noFn).params, .slice af (fs.getD j noFn).outs.len cf, .slice aa args.length ca], .slice (some ⟨g, 0, none⟩) args.length args.length] W (DrRes W (paL fs (j : Int) param args)) from by
      have hbW : Below w0.heap.size w0 W := hb12.trans (hW.mono hb12.size)
      have e : paL fs (j : Int) param args = alL fs j args (unitV args.length param.toNat) := paL_yes (by rw [hDR.out, if_pos hd])
      rw [e]
      exact iAlong fs ap capp j af cf aa _ ca _ args.length args _ W hp1 hj hfl ((HP.out.below hbW).mono (Nat.le_refl _) hbW.size) ((hFo.agree (fun i _ h2 => hbW.block i h2)).mono (Nat.le_refl _) hbW.size) (HA.out.below hbW (Nat.le_refl _)) hnm ho.at (unitV_nums _ _) hln rfl (unitV_len _ _) hca hca2)
    clear HF HP HA hDR hFo hab hln hnm hy hp1 hf1 hf2 hb12 hb1
    obtain ⟨R, hR⟩ : ∃ R, paL fs (j : Int) param args = R := ⟨_, rfl⟩
    rw [hR] at HBAD HCO
    have HRQ := Lib.hid hR
    clear hR
    generalize (fs.getD j noFn).name = nm at *
    generalize (fs.getD j noFn).params = pa at *
    generalize (fs.getD j noFn).outs.len = mo at *
    go_wp2_with fail
    rw [← hw2]
    clear hw2
    by_cases hq : 0 ≤ param ∧ param < pa
    rotate_left
    · have hd1 : decide (0 ≤ param ∧ param < pa) = false := decide_eq_false hq
      rw [hd1] at HDI
      have HX := Lib.hid (HBAD.out hq)
      clear HBAD HCO HU hq hd1
      refine HDI.out.mono ?_; rintro e w4 ⟨rfl, b4⟩
      have B4 := hB2.trans (b4.mono hB2.size)
      go_wp2_with fail
      go_ret2
      rw [HRQ.out, HX.out]
      exact LcRes.fail (show ¬ (2 : Int) = 0 by decide) B4
    · have hd1 : decide (0 ≤ param ∧ param < pa) = true := decide_eq_true hq
      rw [hd1] at HDI
      have HC4 := fun (W : World) (hW : Below w2.heap.size w2 W) => HCO W hW hq
      have HU4 := fun (W : World) => HU W hq
      clear HBAD HCO HU hq hd1
      refine HDI.out.mono ?_; rintro e w4 ⟨rfl, b4⟩
      have B4 := hB2.trans (b4.mono hB2.size)
      replace p0 := (b4.cell (p := ⟨w1.heap.size, 0, none⟩) (cell_lt p0)).trans p0
      replace p1 := (b4.cell (p := ⟨w1.heap.size, 1, none⟩) (cell_lt p1)).trans p1
      replace p2 := (b4.cell (p := ⟨w1.heap.size, 2, none⟩) (cell_lt p2)).trans p2
      replace p3 := (b4.cell (p := ⟨w1.heap.size, 3, none⟩) (cell_lt p3)).trans p3
      replace p4 := (b4.cell (p := ⟨w1.heap.size, 4, none⟩) (cell_lt p4)).trans p4
      replace p5 := (b4.cell (p := ⟨w1.heap.size, 5, none⟩) (cell_lt p5)).trans p5
      have l0 := cell_lt p0
      have hz4 := b4.size
      have HXX : Hid (∀ W, Below w4.heap.size w4 W → W.cell? ⟨w1.heap.size, 0, none⟩ = some ofN ∧ W.cell? ⟨w1.heap.size, 1, none⟩ = some (.slice ap fs.length capp) ∧ W.cell? ⟨w1.heap.size, 2, none⟩ = some (.string nm) ∧ W.cell? ⟨w1.heap.size, 3, none⟩ = some (.int .i64 pa) ∧ W.cell? ⟨w1.heap.size, 4, none⟩ = some (.slice af mo cf) ∧ W.cell? ⟨w1.heap.size, 5, none⟩ = some (.slice aa args.length ca)) := by
        intro W hW
        exact ⟨(hW.cell (p := ⟨w1.heap.size, 0, none⟩) l0).trans p0, (hW.cell (p := ⟨w1.heap.size, 1, none⟩) l0).trans p1, (hW.cell (p := ⟨w1.heap.size, 2, none⟩) l0).trans p2, (hW.cell (p := ⟨w1.heap.size, 3, none⟩) l0).trans p3, (hW.cell (p := ⟨w1.heap.size, 4, none⟩) l0).trans p4, (hW.cell (p := ⟨w1.heap.size, 5, none⟩) l0).trans p5⟩
      go_wp2_with fail
      go_region_held3 (fun w' => w'.cell? ⟨w1.heap.size, 0, none⟩ = some ofN ∧ w'.cell? ⟨w1.heap.size, 1, none⟩ = some (.slice ap fs.length capp) ∧ w'.cell? ⟨w1.heap.size, 2, none⟩ = some (.string nm) ∧ w'.cell? ⟨w1.heap.size, 3, none⟩ = some (.int .i64 pa) ∧ w'.cell? ⟨w1.heap.size, 4, none⟩ = some (.slice af mo cf) ∧ w'.cell? ⟨w1.heap.size, 5, none⟩ = some (.slice aa args.length ca))
        (first
          | with_reducible exact ⟨p0, p1, p2, p3, p4, p5⟩
          | with_reducible exact HXX.out _ b6
          | with_reducible exact HXX.out _ b5
          | go_keep)
        (first
          | (go_at_call 47; refine (HC4 w5 (b4.trans (b5.mono hz4)) g (ho.mono hz4)).out.mono ?_; intro e w6 hres; obtain ⟨a6, c6, a7, c7, rfl, o6, o7, _, b6'⟩ := hres; have b6 : Below w4.heap.size w4 w6 := b5.trans (b6'.mono b5.size))
          | (go_at_call 51; refine (HU4 _).out.mono ?_; rintro e w5 ⟨g, rfl, ho', b5'⟩; have b5 : Below w4.heap.size w4 w5 := ⟨b5'.os, b5'.tape, b5'.output, b5'.size, b5'.block⟩; have ho : Own w4.heap.size w5 g args.length (unitV args.length param.toNat) := ho'))
      all_goals
        have B6 := B4.trans (b6.mono B4.size)
        have hs5 := b5.size
        have hs4 := B4.size
        clear HXX HC4 HU4
        go_wp2_with fail
        go_ret2
        rw [HRQ.out]
        exact ⟨a7, c7, rfl, o7.imp id (fun ⟨g, e, o⟩ => ⟨g, e, o.mono (by omega)⟩), B6⟩

end Go.Proofs.YtoedccgiahegnaaGreat
