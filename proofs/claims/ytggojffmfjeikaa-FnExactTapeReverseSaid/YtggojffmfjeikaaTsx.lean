/- Tapes: the sweep backwards over rows, by the model. -/
import Derived.Test.YtggojffmfjeikaaTsw
import Derived.Test.YtggojffmfjeikaaHdq
namespace Go.Proofs.Ytggojffmfjeikaa
open Go.RowKit
set_option linter.unusedVariables false

theorem cell_set_ne {w : World} {p q : Addr} {v u : Value} (h : w.cell? p = some u) (hne : p.block ≠ q.block) : (w.setCell q v).cell? p = some u :=
  (World.cell?_of_block (Below.heap_setCell _ _ _ _ hne)).trans h
theorem frz_set {w : World} {p q : Addr} {v : Value} (h : w.frozen? p = false) : (w.setCell q v).frozen? p = false := by
  rw [World.frozen?_setCell]; exact h

set_option maxRecDepth 100000 in
set_option maxHeartbeats 25600000 in
theorem sSweep (t : Tp) (bt : Nat) (ac : Option Addr) (cc : Nat) (ag : Option Addr) (cg : Nat) (ao : Option Addr) (co : Nat) (Lr gr capr n : Nat) (rs : List (List Int)) (aw : Option Addr) (cw : Nat) (ws : List Int) (w : World) (hC : Tcl w bt t ac cc ag cg ao co) (hP : Tat w 0 w.heap.size t ac ag ao) (ht : Okt t)
    (hR : Rws w Lr gr capr rs) (hrs : RowsOk n rs) (hrl : Hid (rs.length = t.code.length)) (hW : At w aw ws) (hwl : Hid (ws.length = t.outs.length)) (hwn : Nums ws) (hn1 : 1 ≤ n) (hn2 : n ≤ 13) :
    Calls Try.prog 100 #[.pointer (some ⟨bt, 0, none⟩), .slice (some ⟨gr, 0, none⟩) rs.length capr, .slice aw ws.length cw, .int .i64 n] w fun e w' => ∃ g cap, e = .returned (.slice (some ⟨g, 0, none⟩) (adjS t ws n rs).length cap) ∧ Rws w' w.heap.size g cap (adjS t ws n rs) ∧ Below w.heap.size w w' := by
  obtain ⟨i0, hi, hz0, hz1, hz2⟩ := info_parts infoRow
  have hB0 := (Below.refl w.heap.size w).alloc (Nat.le_refl _) (.cells #[] 37)
  have hO0 := rws_none w w.heap.size (Nat.le_refl _)
  have hct := ht.size
  have hol := ht.outs
  go_enter Try.func100, Try.ntmps100
  go_wp2_with fail
  go_loopw [9, 10] (fun v q wr => ∃ (k g cap : Nat) (ls : List (List Int)), k ≤ t.code.length ∧ q = .int .i64 k ∧ v = .slice (some ⟨g, 0, none⟩) ls.length cap ∧ Hid (ls = List.replicate k (cstl 0 n)) ∧ Rws wr w.heap.size g cap ls ∧ Below w.heap.size w wr) (fun _ q _ => t.code.length - (intOf q).toNat)
  case atStart => exact ⟨0, w.heap.size, 0, [], Nat.zero_le _, rfl, rfl, rfl, hO0, hB0⟩
  case round =>
    obtain ⟨k, g, cap, ls, hk, rfl, rfl, HL, ho, hw⟩ := hrel
    clear hO0 hB0
    obtain ⟨c0, c1, c2, c3⟩ := hC.next hw
    by_cases hlt : k < t.code.length
    · have hii : (k : Int) < (t.code.length : Int) := by omega
      have hll : ls.length ≤ k := by rw [HL.out]; simp
      have HL2 : Hid (ls ++ [cstl 0 n] = List.replicate (k + 1) (cstl 0 n)) := by show _ = _; rw [HL.out, List.replicate_succ']
      have hz := hw.size
      have hgb := ho.base
      clear HL
      go_wp2_with fail
      refine (sConst 0 n _ (by omega)).mono ?_; rintro e w1 ⟨g1, c1', rfl, o1, b1⟩
      have hw1 := hw.trans (b1.mono hz)
      have ho1 := ho.next b1
      have hg1 := o1.base
      have hr1 := o1.rw (g0 := g) (by omega)
      obtain ⟨vs, hvs, hall⟩ := ho1
      have hvl : vs.length = ls.length := by have := hvs.1; omega
      clear b1 ho o1 c0 c1 c2 c3
      have hz1' := hw1.size
      obtain ⟨r, hr0⟩ : ∃ r, r = cstl 0 n := ⟨_, rfl⟩
      rw [← hr0] at hr1 HL2
      rw [← hr0]
      have HR0 := Lib.hid hr0
      clear hr0
      have HR := Lib.hid hr1
      have HV := Lib.hid hall
      have HVL := Lib.hid hvl
      clear hr1 hall hvl
      go_wp2_with (at_builtin; refine wpList_append_lies _ rfl _ _ _ rfl w.heap.size 37 i0 _ 1 24 Try.underlying97 hi hz0 hz1 hz2 rfl (by omega) (.slice (some ⟨g, 0, none⟩) ls.length cap) ls.length vs rfl (hvs.alloc _) ⟨w1.heap.size, 0, none⟩ 1 1 [.slice (some ⟨g1, 0, none⟩) r.length c1'] rfl rfl (World.news_of_block (cs := #[.slice (some ⟨g1, 0, none⟩) r.length c1']) (t := 37) (fr := (0, 0)) (heap_alloc_new w1 _)) (by simp [Value.oneCell']) (by omega) (by unfold maxLen; omega) (by omega) (by simp; omega) (w1.heap.size + 1) (by simp) ?_; intro gg cx w2 hown1 hgrow hat hlt1)
      have hw2 := (hw1.alloc hz1' (.cells #[.slice (some ⟨g1, 0, none⟩) r.length c1'] 37)).grown hgrow (by simp; omega) (by intro q hq; simp [Value.ownBlock] at hq; omega)
      have hrs2 : Rws w2 w.heap.size gg cx (ls ++ [r]) := rws_push (w := w1.alloc (.cells #[.slice (some ⟨g1, 0, none⟩) r.length c1'] 37)) (fun i hi => by obtain ⟨ai, ci, h3, h4⟩ := HV.out i hi; exact ⟨ai, ci, h3, h4.next ((Below.refl _ _).alloc (Nat.le_refl _) _)⟩) HVL.out (HR.out.next ((Below.refl _ _).alloc (Nat.le_refl _) _)) hown1 hgrow (gg_of hat (by simp))
      clear hown1 hgrow hat HR HV HVL hvs
      go_wp2_with fail
      go_roundw
      case rel => exact ⟨k + 1, gg, cx, ls ++ [r], by omega, by go_num, by simp, by rw [← HR0.out]; exact HL2, hrs2, hw2⟩
      case measure => simp [intOf]; omega
    · have hii : ¬ (k : Int) < (t.code.length : Int) := by omega
      have hkk : k = t.code.length := by omega
      subst hkk
      have hls : ls = seedS t ws n 0 := HL.out
      subst hls
      clear HL
      have hgL := ho.base
      obtain ⟨c0, c1, c2, c3⟩ := hC.next hw
      go_wp2_with fail
      clear c0 c1 c2 c3
      go_loopw [11] (fun q wq => ∃ k : Nat, k ≤ t.outs.length ∧ q = .int .i64 k ∧ Rws wq w.heap.size g cap (seedS t ws n k) ∧ Below w.heap.size w wq) (fun q _ => t.outs.length - (intOf q).toNat)
      case atStart => exact ⟨0, Nat.zero_le _, rfl, ho, hw⟩
      case round =>
        obtain ⟨k, hk, rfl, hok, hwk⟩ := hrel
        clear ho hw
        obtain ⟨c0, c1, c2, c3⟩ := hC.next hwk
        by_cases hlt2 : k < t.outs.length
        · have hii2 : (k : Int) < (t.outs.length : Int) := by omega
          obtain ⟨b2, o2, rfl, hb2, hall2⟩ := (((hP.below hwk).outs).resolve_left (by intro e; rw [e] at hlt2; simp at hlt2))
          have f0 := hall2 k hlt2
          have hlw : k < ws.length := by have := hwl.out; omega
          have hiw : (k : Int) < (ws.length : Int) := by omega
          obtain ⟨b3, o3, rfl, hb3, hall3⟩ := ((id hW).resolve_left (by intro e; rw [e] at hlw; simp at hlw))
          have hb3w := hb3
          have f1 := (hwk.cell (p := ⟨b3, o3 + k, none⟩) hb3).trans (hall3 k hlw)
          have hx := hwn.at k
          have hot := ht.out k hlt2
          obtain ⟨q, hq⟩ : ∃ q : Nat, t.outs.getD k 0 = (q : Int) := ⟨(t.outs.getD k 0).toNat, by omega⟩
          have hnl := seedS_len t ws n k
          have hql : q < (seedS t ws n k).length := by omega
          have hqi : (q : Int) < ((seedS t ws n 0).length : Int) := by rw [seedS_len]; omega
          obtain ⟨ap, cp, fp, hrp⟩ := hok.get hql
          have ff := hok.frz q
          have hpk := seedS_ok (ws := ws) (n := n) ht k (by omega) q hql
          have HS : Hid (∀ W, Rws W w.heap.size g cap ((seedS t ws n k).set q (addl ((seedS t ws n k).getD q []) (cstl (ws.getD k 0) n))) → Rws W w.heap.size g cap (seedS t ws n (k + 1))) := fun W h => by rw [seedS, rAdd, hq, Int.toNat_natCast]; exact h
          have HAp := Lib.hid hrp.at
          have HNp := Lib.hid hpk.2
          have HLp := Lib.hid hpk.1
          have HOk := Lib.hid hok
          have HNL := Lib.hid hnl
          have lt0 := (hC.next hwk).lt
          have lt1 : b2 < wr.heap.size := Nat.lt_of_lt_of_le hb2.2 hwk.size
          have lt2 := Nat.lt_of_lt_of_le hb3 hwk.size
          have lt3 : g < wr.heap.size := hok.base.2
          have HGL := Lib.hid hgL
          have hne1 : bt ≠ g := by have := hC.lt; have := hgL.1; omega
          have hne2 : b2 ≠ g := by have := hb2.2; have := hgL.1; omega
          have hne3 : b3 ≠ g := by have := hb3w; have := hgL.1; omega
          rw [hq] at f0
          clear hall2 hall3 hpk hrp hok hnl hot hq hgL hlt2 hql hlw
          generalize (seedS t ws n k).getD q [] = lp at *
          generalize ws.getD k 0 = x at *
          go_wp2_with fail
          refine region_T 26 (fun w' => w'.cell? ⟨bt, 3, none⟩ = some (.slice (some ⟨b2, o2, none⟩) t.outs.length co) ∧ w'.cell? ⟨b2, o2 + k, none⟩ = some (.int .i64 (q : Int)) ∧ w'.cell? ⟨b3, o3 + k, none⟩ = some (.int .i64 x) ∧ w'.cell? ⟨g, q, none⟩ = some (.slice ap lp.length cp) ∧ w'.frozen? ⟨g, q, none⟩ = false) (by kernel_rfl) (⟨c3, f0, f1, fp, ff⟩) (fun hHeld => ?_)
          refine anyT_take (i := 0) (v := ?vT0) rfl (by kernel_rfl) (fun _ _ _ h => h) (Or.inl ⟨by rfl, ?hT0⟩) hHeld ?rT0
          case hT0 => (intro wS hSw; (try dsimp only at hSw); go_simp; try with_reducible rfl)
          simp only [Act.put]
          refine anyT_take (i := 1) (v := ?vT1) rfl (by kernel_rfl) (fun _ _ _ h => h) (Or.inl ⟨by rfl, ?hT1⟩) hHeld ?rT1
          case hT1 => (intro wS hSw; (try dsimp only at hSw); go_simp; try with_reducible rfl)
          simp only [Act.put]
          refine anyT_take (i := 2) (v := ?vT2) rfl (by kernel_rfl) (fun _ _ _ h => h) (Or.inl ⟨by rfl, ?hT2⟩) hHeld ?rT2
          case hT2 => (intro wS hSw; (try dsimp only at hSw); go_simp; try with_reducible rfl)
          simp only [Act.put]
          refine anyT_take (i := 3) (v := ?vT3) rfl (by kernel_rfl) (fun _ _ _ h => h) (Or.inl ⟨by rfl, ?hT3⟩) hHeld ?rT3
          case hT3 => (intro wS hSw; (try dsimp only at hSw); go_simp; try with_reducible rfl)
          simp only [Act.put]
          refine anyT_take (i := 4) (v := ?vT4) rfl (by kernel_rfl) (fun _ _ _ h => h) (Or.inl ⟨by rfl, ?hT4⟩) hHeld ?rT4
          case hT4 => (intro wS hSw; (try dsimp only at hSw); go_simp; try with_reducible rfl)
          simp only [Act.put]
          refine anyT_take (i := 5) (v := ?vT5) rfl (by kernel_rfl) (fun _ _ _ h => h) (Or.inl ⟨by rfl, ?hT5⟩) hHeld ?rT5
          case hT5 => (intro wS hSw; (try dsimp only at hSw); go_simp; try with_reducible rfl)
          simp only [Act.put]
          refine anyT_take (i := 6) (v := ?vT6) rfl (by kernel_rfl) (fun _ _ _ h => h) (Or.inl ⟨by rfl, ?hT6⟩) hHeld ?rT6
          case hT6 => (intro wS hSw; (try dsimp only at hSw); go_simp; try with_reducible rfl)
          simp only [Act.put]
          refine anyT_take (i := 7) (v := ?vT7) rfl (by kernel_rfl) (fun _ _ _ h => h) (Or.inl ⟨by rfl, ?hT7⟩) hHeld ?rT7
          case hT7 => (intro wS hSw; (try dsimp only at hSw); go_simp; try with_reducible rfl)
          simp only [Act.put]
          refine anyT_take (i := 8) (v := ?vT8) rfl (by kernel_rfl) (fun _ _ _ h => h) (Or.inl ⟨by rfl, ?hT8⟩) hHeld ?rT8
          case hT8 => (intro wS hSw; (try dsimp only at hSw); go_simp; try with_reducible rfl)
          simp only [Act.put]
          refine anyT_take (i := 9) (v := ?vT9) rfl (by kernel_rfl) (fun _ _ _ h => h) (Or.inl ⟨by rfl, ?hT9⟩) hHeld ?rT9
          case hT9 => (intro wS hSw; (try dsimp only at hSw); go_simp; try with_reducible rfl)
          simp only [Act.put]
          refine anyT_take (i := 10) (v := ?vT10) rfl (by kernel_rfl) (fun _ _ _ h => h) (Or.inl ⟨by rfl, ?hT10⟩) hHeld ?rT10
          case hT10 => (intro wS hSw; (try dsimp only at hSw); go_simp; try with_reducible rfl)
          simp only [Act.put]
          refine anyT_take (i := 11) (v := ?vT11) rfl (by kernel_rfl) (fun _ _ _ h => h) (Or.inl ⟨by rfl, ?hT11⟩) hHeld ?rT11
          case hT11 => (intro wS hSw; (try dsimp only at hSw); go_simp; try with_reducible rfl)
          simp only [Act.put]
          refine anyT_take (i := 12) (v := ?vT12) rfl (by kernel_rfl) (fun _ _ _ h => h) (Or.inl ⟨by rfl, ?hT12⟩) hHeld ?rT12
          case hT12 => (intro wS hSw; (try dsimp only at hSw); go_simp; try with_reducible rfl)
          simp only [Act.put]
          refine anyT_take (i := 13) (v := ?vT13) rfl (by kernel_rfl) (fun _ _ _ h => h) (Or.inl ⟨by rfl, ?hT13⟩) hHeld ?rT13
          case hT13 => (intro wS hSw; (try dsimp only at hSw); go_simp; try with_reducible rfl)
          simp only [Act.put]
          refine anyT_take (i := 14) (v := ?vT14) rfl (by kernel_rfl) (fun _ _ _ h => h) (Or.inl ⟨by rfl, ?hT14⟩) hHeld ?rT14
          case hT14 => (intro wS hSw; (try dsimp only at hSw); go_simp; try with_reducible rfl)
          simp only [Act.put]
          refine anyT_take (i := 15) (v := ?vT15) rfl (by kernel_rfl) (fun _ _ _ h => h) (Or.inl ⟨by rfl, ?hT15⟩) hHeld ?rT15
          case hT15 => (intro wS hSw; (try dsimp only at hSw); go_simp; try with_reducible rfl)
          simp only [Act.put]
          refine anyT_take (i := 16) (v := ?vT16) rfl (by kernel_rfl) (fun _ _ _ h => h) (Or.inl ⟨by rfl, ?hT16⟩) hHeld ?rT16
          case hT16 => (intro wS hSw; (try dsimp only at hSw); go_simp; try with_reducible rfl)
          simp only [Act.put]
          refine anyT_take (i := 17) (v := ?vT17) rfl (by kernel_rfl) (fun _ _ _ h => h) (Or.inl ⟨by rfl, ?hT17⟩) hHeld ?rT17
          case hT17 => (intro wS hSw; (try dsimp only at hSw); go_simp; try with_reducible rfl)
          simp only [Act.put]
          refine anyT_take (i := 18) (v := ?vT18) rfl (by kernel_rfl) (fun _ _ _ h => h) (Or.inl ⟨by rfl, ?hT18⟩) hHeld ?rT18
          case hT18 => (intro wS hSw; (try dsimp only at hSw); go_simp; try with_reducible rfl)
          simp only [Act.put]
          refine anyT_take (i := 19) (v := ?vT19) rfl (by kernel_rfl) (fun _ _ _ h => h) (Or.inl ⟨by rfl, ?hT19⟩) hHeld ?rT19
          case hT19 => (intro wS hSw; (try dsimp only at hSw); go_simp; try with_reducible rfl)
          simp only [Act.put]
          refine anyT_take (i := 20) (v := ?vT20) rfl (by kernel_rfl) (fun _ _ _ h => h) (Or.inl ⟨by rfl, ?hT20⟩) hHeld ?rT20
          case hT20 => (intro wS hSw; (try dsimp only at hSw); go_simp; try with_reducible rfl)
          simp only [Act.put]
          refine anyT_take (i := 21) (v := ?vT21) rfl (by kernel_rfl) (fun _ _ _ h => h) (Or.inl ⟨by rfl, ?hT21⟩) hHeld ?rT21
          case hT21 => (intro wS hSw; (try dsimp only at hSw); go_simp; try with_reducible rfl)
          simp only [Act.put]
          refine anyT_take (i := 22) (v := ?vT22) rfl (by kernel_rfl) (fun _ _ _ h => h) (Or.inl ⟨by rfl, ?hT22⟩) hHeld ?rT22
          case hT22 => (intro wS hSw; (try dsimp only at hSw); go_simp; try with_reducible rfl)
          simp only [Act.put]
          refine anyT_step (i := 23) rfl (by kernel_rfl) (fun K hK => ?_)
          clear hHeld
          go_simp
          refine (sConst x n _ (by omega)).mono ?_; rintro e w8 ⟨g8, c8, rfl, ho8, hb8'⟩
          have hb8 : Below wr.heap.size wr w8 := ⟨hb8'.os, hb8'.tape, hb8'.output, hb8'.size, hb8'.block⟩
          go_wp2_with fail
          refine hK.out _ _ (⟨(hb8.cell (p := ⟨bt, 3, none⟩) lt0).trans c3, (hb8.cell (p := ⟨b2, o2 + k, none⟩) lt1).trans f0, (hb8.cell (p := ⟨b3, o3 + k, none⟩) lt2).trans f1, (hb8.cell (p := ⟨g, q, none⟩) lt3).trans fp, (hb8.frozen (p := ⟨g, q, none⟩) lt3).trans ff⟩) (fun hHeld => ?_)
          clear hK K
          try simp only [Act.put]
          refine anyT_step (i := 24) rfl (by kernel_rfl) (fun K hK => ?_)
          clear hHeld
          go_simp
          refine (sAdd _ _ _ _ lp (cstl x n) _ (HAp.out.below hb8 (Nat.le_refl _)) ho8.at HNp.out.rng (cstl_nums hx).rng (by show _ = _; rw [cstl_len, HLp.out]) (by have := HLp.out; omega)).mono ?_; rintro e w9 ⟨g9, c9, rfl, ho9, hb9'⟩
          have hb9 : Below wr.heap.size wr w9 := hb8.trans (hb9'.mono hb8.size)
          go_wp2_with fail
          refine hK.out _ _ (⟨(hb9.cell (p := ⟨bt, 3, none⟩) lt0).trans c3, (hb9.cell (p := ⟨b2, o2 + k, none⟩) lt1).trans f0, (hb9.cell (p := ⟨b3, o3 + k, none⟩) lt2).trans f1, (hb9.cell (p := ⟨g, q, none⟩) lt3).trans fp, (hb9.frozen (p := ⟨g, q, none⟩) lt3).trans ff⟩) (fun hHeld => ?_)
          clear hK K
          try simp only [Act.put]
          refine anyT_take (i := 25) (v := ?vT25) rfl (by kernel_rfl) (fun _ _ _ h => h) (Or.inl ⟨by rfl, ?hT25⟩) hHeld ?rT25
          case hT25 => (intro wS hSw; (try dsimp only at hSw); go_simp; try with_reducible rfl)
          simp only [Act.put]
          refine anyT_last rfl (by kernel_rfl) (by kernel_rfl) (fun K hK => ?_)
          try dsimp only at hHeld
          go_simp
          refine hK.out _ _ ?_
          clear hK K hHeld
          have hok9 := HOk.out.next hb9
          have h8 := hb8.size
          have hset := hok9.set q (c := c9) (ho9.rw (g0 := g) (by have := ho9.base; omega))
          have hw9 := (hwk.trans (hb9.mono hwk.size)).setCell (p := ⟨g, q, none⟩) HGL.out.1 (.slice (some ⟨g9, 0, none⟩) (addl lp (cstl x n)).length c9)
          clear c0 c1 c2 c3 f0 f1 fp ff hok9 ho9 ho8 hb8 hb8' hb9' hb9
          go_wp2_with fail
          go_roundw
          case rel => exact ⟨k + 1, by omega, by go_num, HS.out _ hset, hw9⟩
          case measure => simp [intOf] <;> omega
        · have hii2 : ¬ (k : Int) < (t.outs.length : Int) := by omega
          have hkk : k = t.outs.length := by omega
          subst hkk
          have HF := Lib.hid (show swpS t rs t.code.length (seedS t ws n t.outs.length) = adjS t ws n rs from rfl)
          have HLn := Lib.hid (seedS_len t ws n t.outs.length)
          have HRk := Lib.hid (seedS_ok (ws := ws) (n := n) ht t.outs.length (Nat.le_refl _))
          have HL0 := Lib.hid (seedS_len t ws n 0)
          have HGL := Lib.hid hgL.1
          clear hgL hwl hwn hW
          go_wp2_with fail
          clear c0 c1 c2 c3
          go_loopw [12] (fun q wq => ∃ (k : Nat) (adj : List (List Int)), k ≤ t.code.length ∧ q = .int .i64 ((k : Int) - 1) ∧ Hid (swpS t rs k adj = adjS t ws n rs) ∧ Hid (adj.length = t.code.length) ∧ Hid (RowsOk n adj) ∧ Rws wq w.heap.size g cap adj ∧ Below w.heap.size w wq) (fun q _ => (intOf q + 1).toNat)
          case atStart => exact ⟨t.code.length, _, Nat.le_refl _, rfl, HF, HLn, HRk, hok, hwk⟩
          case round =>
            obtain ⟨k, adj, hk, rfl, HX, HL, HO, hok, hwk⟩ := hrel
            cases k with
            | zero =>
              have HF2 : Hid (adj = adjS t ws n rs) := HX.out
              clear hC hP hR HF HLn HRk
              go_wp2_with fail
              go_ret
              exact ⟨g, cap, ret_slice (by rw [adjS_len]; exact HL0.out), by rw [← HF2.out]; exact hok, hwk⟩
            | succ k =>
              have hlt3 : k < t.code.length := by omega
              have ek : ((k + 1 : Nat) : Int) - 1 = (k : Int) := by omega
              rw [ek]
              have hkn : (k : Int) < ((seedS t ws n 0).length : Int) := by have := HL0.out; omega
              have hkt : (k : Int) < (t.code.length : Int) := by omega
              have hk0 : (0 : Int) ≤ (k : Int) := by omega
              obtain ⟨c0, c1, c2, c3⟩ := hC.next hwk
              have hx := ins_reads (ht.code k hlt3)
              have HSP : Hid (swpS t rs k (sprS (t.code.getD k no4) k rs adj) = adjS t ws n rs) := HX.out
              have HSL : Hid ((sprS (t.code.getD k no4) k rs adj).length = t.code.length) := by show _ = _; rw [sprS_len]; exact HL.out
              have HSO : Hid (RowsOk n (sprS (t.code.getD k no4) k rs adj)) := sprS_ok (ht.code k hlt3) HO.out (by have := HL.out; omega)
              obtain ⟨bf, of, rfl, hbf, hrow⟩ := ((hP.code.below hwk).resolve_left (by intro e; rw [e] at hlt3; simp at hlt3))
              obtain ⟨hri0, f0, f1, f2, f3⟩ := hrow k hlt3
              obtain ⟨ai, ci, fi, hri⟩ := hok.get (i := k) (by have := HL.out; omega)
              have HIk := HO.out k (by have := HL.out; omega)
              have LI := Lib.hid HIk.1
              have NI := Lib.hid HIk.2
              have HRi := Lib.hid hri
              have hgw := hok.base
              have lg0 : g < wr.heap.size := hgw.2
              clear hrow hri0 HX HIk hri HF HLn HRk hgw
              generalize t.code.getD k no4 = x at *
              obtain ⟨o, a4, b4, m4⟩ := x
              simp only at *
              obtain ⟨WX, hWX⟩ : ∃ WX, WX = wr.alloc (.cells #[.int .i64 o, .int .i64 a4, .int .i64 b4, .int .i64 m4] 85) := ⟨_, rfl⟩
              have hwx : Below wr.heap.size wr WX := by rw [hWX]; exact (Below.refl _ _).alloc (Nat.le_refl _) _
              have HWX := Lib.hid (hwk.trans (hwx.mono hwk.size))
              have HOX := Lib.hid (hok.next hwx)
              have HIX := Lib.hid (HRi.out.next hwx)
              have xc1 : WX.cell? ⟨wr.heap.size, 1, none⟩ = some (.int .i64 a4) := by rw [hWX]; simp [go_sem]
              have xc2 : WX.cell? ⟨wr.heap.size, 2, none⟩ = some (.int .i64 b4) := by rw [hWX]; simp [go_sem]
              have lbX : wr.heap.size < WX.heap.size := by rw [hWX]; simp
              have hbg : wr.heap.size ≠ g := by omega
              clear hok HRi
              generalize hli : adj.getD k [] = li at *
              have HLI := Lib.hid hli
              clear hli
              rcases hx with ⟨rfl, hn⟩ | ⟨rfl, hn⟩ | ⟨hop, ha, hb⟩ | ⟨rfl, ha⟩
              · have HS : Hid (sprS ⟨1, a4, b4, m4⟩ k rs adj = adj) := by show _ = _; simp [sprS]
                rw [HS.out] at HSP HSL HSO
                clear hC hP hR xc1 xc2
                go_wp2_with fail
                try rw [← hWX]
                go_roundw
                case rel => exact ⟨k, adj, by omega, by first | go_num | (simp; done) | omega, HSP, HSL, HSO, HOX.out, HWX.out⟩
                case measure => simp [intOf] <;> omega
              · have HS : Hid (sprS ⟨2, a4, b4, m4⟩ k rs adj = adj) := by show _ = _; simp [sprS]
                rw [HS.out] at HSP HSL HSO
                clear hC hP hR xc1 xc2
                go_wp2_with fail
                try rw [← hWX]
                go_roundw
                case rel => exact ⟨k, adj, by omega, by first | go_num | (simp; done) | omega, HSP, HSL, HSO, HOX.out, HWX.out⟩
                case measure => simp [intOf] <;> omega
              · obtain ⟨p, rfl⟩ : ∃ q : Nat, a4 = (q : Int) := ⟨a4.toNat, by omega⟩
                obtain ⟨q, rfl⟩ : ∃ q : Nat, b4 = (q : Int) := ⟨b4.toNat, by omega⟩
                have hpk : p < k := by omega
                have hqk : q < k := by omega
                have hpi : (p : Int) < ((seedS t ws n 0).length : Int) := by have := HL0.out; omega
                have hqi : (q : Int) < ((seedS t ws n 0).length : Int) := by have := HL0.out; omega
                have adjL := HL
                have adjO := HO
                clear ha hb
                rcases hop with rfl | rfl | rfl | rfl
                ·
                  have HS : Hid (sprS ⟨3, (p : Int), (q : Int), m4⟩ k rs adj = rAdd (rAdd adj p li) q li) := by show _ = _; unfold sprS; rw [HLI.out]; simp only [Int.toNat_natCast]; simp
                  rw [HS.out] at HSP HSL HSO
                  go_wp2_with fail
                  try rw [← hWX]
                  clear hWX c0 c1 c2 c3 f0 f1 f2 f3 fi
                  obtain ⟨ap1, cp1, fp1, hrp1⟩ := HOX.out.get (i := p) (by have := adjL.out; omega)
                  have ff1 := HOX.out.frz p
                  have hpk1 := adjO.out p (by have := adjL.out; omega)
                  have LP1 := Lib.hid hpk1.1
                  have NP1 := Lib.hid hpk1.2
                  have AP1 := Lib.hid hrp1
                  have lg1 : g < WX.heap.size := HOX.out.base.2
                  clear hpk1 hrp1
                  obtain ⟨lp1, hlp1⟩ : ∃ lp, lp = adj.getD p [] := ⟨_, rfl⟩
                  rw [← hlp1] at fp1 LP1 NP1 AP1
                  have HLP1 := Lib.hid hlp1
                  clear hlp1
                  have hlp131 : lp1.length ≤ 13 := by rw [LP1.out]; exact hn2
                  have hlv131 : li.length ≤ 13 := by rw [LI.out]; exact hn2
                  refine region_TQ 11 (fun w' => w'.cell? ⟨wr.heap.size, 1, none⟩ = some (.int .i64 (p : Int)) ∧ w'.cell? ⟨g, p, none⟩ = some (.slice ap1 lp1.length cp1) ∧ w'.frozen? ⟨g, p, none⟩ = false) (by kernel_rfl) (⟨xc1, fp1, ff1⟩) (fun _ _ d _ _ h => by cases d <;> exact h) (fun HQ hHeld => ?_)
                  refine anyT_take (i := 0) (v := ?vT0_1) rfl (by kernel_rfl) (fun c a w h => HQ.out c a _ _ w h) (Or.inl ⟨by rfl, ?hT0_1⟩) hHeld ?rT0_1
                  case hT0_1 => (intro wS hSw; (try dsimp only at hSw); go_simp; try with_reducible rfl)
                  simp only [Act.put]
                  refine anyT_take (i := 1) (v := ?vT1_1) rfl (by kernel_rfl) (fun c a w h => HQ.out c a _ _ w h) (Or.inl ⟨by rfl, ?hT1_1⟩) hHeld ?rT1_1
                  case hT1_1 => (intro wS hSw; (try dsimp only at hSw); go_simp; try with_reducible rfl)
                  simp only [Act.put]
                  refine anyT_take (i := 2) (v := ?vT2_1) rfl (by kernel_rfl) (fun c a w h => HQ.out c a _ _ w h) (Or.inl ⟨by rfl, ?hT2_1⟩) hHeld ?rT2_1
                  case hT2_1 => (intro wS hSw; (try dsimp only at hSw); go_simp; try with_reducible rfl)
                  simp only [Act.put]
                  refine anyT_take (i := 3) (v := ?vT3_1) rfl (by kernel_rfl) (fun c a w h => HQ.out c a _ _ w h) (Or.inl ⟨by rfl, ?hT3_1⟩) hHeld ?rT3_1
                  case hT3_1 => (intro wS hSw; (try dsimp only at hSw); go_simp; try with_reducible rfl)
                  simp only [Act.put]
                  refine anyT_take (i := 4) (v := ?vT4_1) rfl (by kernel_rfl) (fun c a w h => HQ.out c a _ _ w h) (Or.inl ⟨by rfl, ?hT4_1⟩) hHeld ?rT4_1
                  case hT4_1 => (intro wS hSw; (try dsimp only at hSw); go_simp; try with_reducible rfl)
                  simp only [Act.put]
                  refine anyT_take (i := 5) (v := ?vT5_1) rfl (by kernel_rfl) (fun c a w h => HQ.out c a _ _ w h) (Or.inl ⟨by rfl, ?hT5_1⟩) hHeld ?rT5_1
                  case hT5_1 => (intro wS hSw; (try dsimp only at hSw); go_simp; try with_reducible rfl)
                  simp only [Act.put]
                  refine anyT_take (i := 6) (v := ?vT6_1) rfl (by kernel_rfl) (fun c a w h => HQ.out c a _ _ w h) (Or.inl ⟨by rfl, ?hT6_1⟩) hHeld ?rT6_1
                  case hT6_1 => (intro wS hSw; (try dsimp only at hSw); go_simp; try with_reducible rfl)
                  simp only [Act.put]
                  refine anyT_take (i := 7) (v := ?vT7_1) rfl (by kernel_rfl) (fun c a w h => HQ.out c a _ _ w h) (Or.inl ⟨by rfl, ?hT7_1⟩) hHeld ?rT7_1
                  case hT7_1 => (intro wS hSw; (try dsimp only at hSw); go_simp; try with_reducible rfl)
                  simp only [Act.put]
                  refine anyT_take (i := 8) (v := ?vT8_1) rfl (by kernel_rfl) (fun c a w h => HQ.out c a _ _ w h) (Or.inl ⟨by rfl, ?hT8_1⟩) hHeld ?rT8_1
                  case hT8_1 => (intro wS hSw; (try dsimp only at hSw); go_simp; try with_reducible rfl)
                  simp only [Act.put]
                  refine anyT_step (i := 9) rfl (by kernel_rfl) (fun K hK => ?_)
                  clear hHeld
                  go_simp
                  refine (sAdd _ _ _ _ lp1 li _ (AP1.out.at.below (tbdrew (Below.refl _ _)) (Nat.le_refl _)) (HIX.out.at.below (tbdrew (Below.refl _ _)) (Nat.le_refl _)) NP1.out.rng NI.out.rng (by show _ = _; rw [LI.out, LP1.out]) (by omega)).mono ?_; rintro e w91 ⟨g91, c91, rfl, ho91, hb91'⟩
                  have hb91 : Below WX.heap.size WX w91 := ⟨hb91'.os, hb91'.tape, hb91'.output, hb91'.size, hb91'.block⟩
                  have h81 : WX.heap.size ≤ WX.drew.heap.size := Nat.le_refl _
                  go_wp2_with fail
                  refine hK.out _ _ (⟨(hb91.cell (p := ⟨wr.heap.size, 1, none⟩) lbX).trans xc1, (hb91.cell (p := ⟨g, p, none⟩) lg1).trans fp1, (hb91.frozen (p := ⟨g, p, none⟩) lg1).trans ff1⟩) (fun hHeld => ?_)
                  clear hK K
                  try simp only [Act.put]
                  refine anyT_take (i := 10) (v := ?vT10_1) rfl (by kernel_rfl) (fun c a w h => HQ.out c a _ _ w h) (Or.inl ⟨by rfl, ?hT10_1⟩) hHeld ?rT10_1
                  case hT10_1 => (intro wS hSw; (try dsimp only at hSw); go_simp; try with_reducible rfl)
                  simp only [Act.put]
                  refine anyT_last rfl (by kernel_rfl) (by kernel_rfl) (fun K hK => ?_)
                  try dsimp only at hHeld
                  go_simp
                  refine hK.out _ _ ?_
                  clear hK K hHeld
                  have hset1 := (HOX.out.next hb91).set p (c := c91) (ho91.rw (g0 := g) (by have := ho91.base; omega))
                  have hwv1 := (HWX.out.trans (hb91.mono HWX.out.size)).setCell (p := ⟨g, p, none⟩) HGL.out (.slice (some ⟨g91, 0, none⟩) (addl lp1 li).length c91)
                  have hrw1 : Rw (w91.setCell ⟨g, p, none⟩ (.slice (some ⟨g91, 0, none⟩) (addl lp1 li).length c91)) g ai li := (HIX.out.next hb91).grow (grownBy_set _ _ _ _) (.inl rfl)
                  have q11 := cell_set_ne (v := .slice (some ⟨g91, 0, none⟩) (addl lp1 li).length c91) (q := ⟨g, p, none⟩) ((hb91.cell (p := ⟨wr.heap.size, 2, none⟩) lbX).trans xc2) (by show _ ≠ _; exact hbg)
                  have lb1 : wr.heap.size < (w91.setCell ⟨g, p, none⟩ (.slice (some ⟨g91, 0, none⟩) (addl lp1 li).length c91)).heap.size := by have := hb91.size; simp; omega
                  have HR1 : Hid (Rws (w91.setCell ⟨g, p, none⟩ (.slice (some ⟨g91, 0, none⟩) (addl lp1 li).length c91)) w.heap.size g cap (rAdd adj p li)) := by show Rws _ _ _ _ _; unfold rAdd; rw [← HLP1.out]; exact hset1
                  have HW1 := Lib.hid hwv1
                  have RW1 := Lib.hid hrw1
                  generalize w91.setCell ⟨g, p, none⟩ (.slice (some ⟨g91, 0, none⟩) (addl lp1 li).length c91) = V1 at *
                  clear hset1 hwv1 hrw1 fp1 ff1
                  have adj2L : Hid ((rAdd adj p li).length = t.code.length) := by show _ = _; rw [rAdd_len]; exact HL.out
                  have adj2O : Hid (RowsOk n (rAdd adj p li)) := rowsOk_add HO.out (by have := HL.out; omega)
                  obtain ⟨adj2, hadj2⟩ : ∃ a, a = rAdd adj p li := ⟨_, rfl⟩
                  rw [← hadj2] at adj2L adj2O HR1 HSP HSL HSO
                  clear hadj2
                  go_wp2_with fail
                  obtain ⟨ap2, cp2, fp2, hrp2⟩ := HR1.out.get (i := q) (by have := adj2L.out; omega)
                  have ff2 := HR1.out.frz q
                  have hpk2 := adj2O.out q (by have := adj2L.out; omega)
                  have LP2 := Lib.hid hpk2.1
                  have NP2 := Lib.hid hpk2.2
                  have AP2 := Lib.hid hrp2
                  have lg2 : g < V1.heap.size := HR1.out.base.2
                  clear hpk2 hrp2
                  obtain ⟨lp2, hlp2⟩ : ∃ lp, lp = adj2.getD q [] := ⟨_, rfl⟩
                  rw [← hlp2] at fp2 LP2 NP2 AP2
                  have HLP2 := Lib.hid hlp2
                  clear hlp2
                  have hlp132 : lp2.length ≤ 13 := by rw [LP2.out]; exact hn2
                  have hlv132 : li.length ≤ 13 := by rw [LI.out]; exact hn2
                  refine region_TQ 11 (fun w' => w'.cell? ⟨wr.heap.size, 2, none⟩ = some (.int .i64 (q : Int)) ∧ w'.cell? ⟨g, q, none⟩ = some (.slice ap2 lp2.length cp2) ∧ w'.frozen? ⟨g, q, none⟩ = false) (by kernel_rfl) (⟨q11, fp2, ff2⟩) (fun _ _ d _ _ h => by cases d <;> exact h) (fun HQ hHeld => ?_)
                  refine anyT_take (i := 0) (v := ?vT0_2) rfl (by kernel_rfl) (fun c a w h => HQ.out c a _ _ w h) (Or.inl ⟨by rfl, ?hT0_2⟩) hHeld ?rT0_2
                  case hT0_2 => (intro wS hSw; (try dsimp only at hSw); go_simp; try with_reducible rfl)
                  simp only [Act.put]
                  refine anyT_take (i := 1) (v := ?vT1_2) rfl (by kernel_rfl) (fun c a w h => HQ.out c a _ _ w h) (Or.inl ⟨by rfl, ?hT1_2⟩) hHeld ?rT1_2
                  case hT1_2 => (intro wS hSw; (try dsimp only at hSw); go_simp; try with_reducible rfl)
                  simp only [Act.put]
                  refine anyT_take (i := 2) (v := ?vT2_2) rfl (by kernel_rfl) (fun c a w h => HQ.out c a _ _ w h) (Or.inl ⟨by rfl, ?hT2_2⟩) hHeld ?rT2_2
                  case hT2_2 => (intro wS hSw; (try dsimp only at hSw); go_simp; try with_reducible rfl)
                  simp only [Act.put]
                  refine anyT_take (i := 3) (v := ?vT3_2) rfl (by kernel_rfl) (fun c a w h => HQ.out c a _ _ w h) (Or.inl ⟨by rfl, ?hT3_2⟩) hHeld ?rT3_2
                  case hT3_2 => (intro wS hSw; (try dsimp only at hSw); go_simp; try with_reducible rfl)
                  simp only [Act.put]
                  refine anyT_take (i := 4) (v := ?vT4_2) rfl (by kernel_rfl) (fun c a w h => HQ.out c a _ _ w h) (Or.inl ⟨by rfl, ?hT4_2⟩) hHeld ?rT4_2
                  case hT4_2 => (intro wS hSw; (try dsimp only at hSw); go_simp; try with_reducible rfl)
                  simp only [Act.put]
                  refine anyT_take (i := 5) (v := ?vT5_2) rfl (by kernel_rfl) (fun c a w h => HQ.out c a _ _ w h) (Or.inl ⟨by rfl, ?hT5_2⟩) hHeld ?rT5_2
                  case hT5_2 => (intro wS hSw; (try dsimp only at hSw); go_simp; try with_reducible rfl)
                  simp only [Act.put]
                  refine anyT_take (i := 6) (v := ?vT6_2) rfl (by kernel_rfl) (fun c a w h => HQ.out c a _ _ w h) (Or.inl ⟨by rfl, ?hT6_2⟩) hHeld ?rT6_2
                  case hT6_2 => (intro wS hSw; (try dsimp only at hSw); go_simp; try with_reducible rfl)
                  simp only [Act.put]
                  refine anyT_take (i := 7) (v := ?vT7_2) rfl (by kernel_rfl) (fun c a w h => HQ.out c a _ _ w h) (Or.inl ⟨by rfl, ?hT7_2⟩) hHeld ?rT7_2
                  case hT7_2 => (intro wS hSw; (try dsimp only at hSw); go_simp; try with_reducible rfl)
                  simp only [Act.put]
                  refine anyT_take (i := 8) (v := ?vT8_2) rfl (by kernel_rfl) (fun c a w h => HQ.out c a _ _ w h) (Or.inl ⟨by rfl, ?hT8_2⟩) hHeld ?rT8_2
                  case hT8_2 => (intro wS hSw; (try dsimp only at hSw); go_simp; try with_reducible rfl)
                  simp only [Act.put]
                  refine anyT_step (i := 9) rfl (by kernel_rfl) (fun K hK => ?_)
                  clear hHeld
                  go_simp
                  refine (sAdd _ _ _ _ lp2 li _ (AP2.out.at.below (tbdrew (Below.refl _ _)) (Nat.le_refl _)) (RW1.out.at.below (tbdrew (Below.refl _ _)) (Nat.le_refl _)) NP2.out.rng NI.out.rng (by show _ = _; rw [LI.out, LP2.out]) (by omega)).mono ?_; rintro e w92 ⟨g92, c92, rfl, ho92, hb92'⟩
                  have hb92 : Below V1.heap.size V1 w92 := ⟨hb92'.os, hb92'.tape, hb92'.output, hb92'.size, hb92'.block⟩
                  have h82 : V1.heap.size ≤ V1.drew.heap.size := Nat.le_refl _
                  go_wp2_with fail
                  refine hK.out _ _ (⟨(hb92.cell (p := ⟨wr.heap.size, 2, none⟩) lb1).trans q11, (hb92.cell (p := ⟨g, q, none⟩) lg2).trans fp2, (hb92.frozen (p := ⟨g, q, none⟩) lg2).trans ff2⟩) (fun hHeld => ?_)
                  clear hK K
                  try simp only [Act.put]
                  refine anyT_take (i := 10) (v := ?vT10_2) rfl (by kernel_rfl) (fun c a w h => HQ.out c a _ _ w h) (Or.inl ⟨by rfl, ?hT10_2⟩) hHeld ?rT10_2
                  case hT10_2 => (intro wS hSw; (try dsimp only at hSw); go_simp; try with_reducible rfl)
                  simp only [Act.put]
                  refine anyT_last rfl (by kernel_rfl) (by kernel_rfl) (fun K hK => ?_)
                  try dsimp only at hHeld
                  go_simp
                  refine hK.out _ _ ?_
                  clear hK K hHeld
                  have hset2 := (HR1.out.next hb92).set q (c := c92) (ho92.rw (g0 := g) (by have := ho92.base; omega))
                  have hwv2 := (HW1.out.trans (hb92.mono HW1.out.size)).setCell (p := ⟨g, q, none⟩) HGL.out (.slice (some ⟨g92, 0, none⟩) (addl lp2 li).length c92)
                  have hrw2 : Rw (w92.setCell ⟨g, q, none⟩ (.slice (some ⟨g92, 0, none⟩) (addl lp2 li).length c92)) g ai li := (RW1.out.next hb92).grow (grownBy_set _ _ _ _) (.inl rfl)
                  have lb2 : wr.heap.size < (w92.setCell ⟨g, q, none⟩ (.slice (some ⟨g92, 0, none⟩) (addl lp2 li).length c92)).heap.size := by have := hb92.size; simp; omega
                  have HR2 : Hid (Rws (w92.setCell ⟨g, q, none⟩ (.slice (some ⟨g92, 0, none⟩) (addl lp2 li).length c92)) w.heap.size g cap (rAdd adj2 q li)) := by show Rws _ _ _ _ _; unfold rAdd; rw [← HLP2.out]; exact hset2
                  have HW2 := Lib.hid hwv2
                  have RW2 := Lib.hid hrw2
                  generalize w92.setCell ⟨g, q, none⟩ (.slice (some ⟨g92, 0, none⟩) (addl lp2 li).length c92) = V2 at *
                  clear hset2 hwv2 hrw2 fp2 ff2
                  go_wp2_with fail
                  go_roundw
                  case rel => exact ⟨k, _, by omega, by first | go_num | (simp; done) | omega, HSP, HSL, HSO, HR2.out, HW2.out⟩
                  case measure => simp [intOf] <;> omega
                ·
                  have HS : Hid (sprS ⟨4, (p : Int), (q : Int), m4⟩ k rs adj = rSub (rAdd adj p li) q li) := by show _ = _; unfold sprS; rw [HLI.out]; simp only [Int.toNat_natCast]; simp
                  rw [HS.out] at HSP HSL HSO
                  go_wp2_with fail
                  try rw [← hWX]
                  clear hWX c0 c1 c2 c3 f0 f1 f2 f3 fi
                  obtain ⟨ap1, cp1, fp1, hrp1⟩ := HOX.out.get (i := p) (by have := adjL.out; omega)
                  have ff1 := HOX.out.frz p
                  have hpk1 := adjO.out p (by have := adjL.out; omega)
                  have LP1 := Lib.hid hpk1.1
                  have NP1 := Lib.hid hpk1.2
                  have AP1 := Lib.hid hrp1
                  have lg1 : g < WX.heap.size := HOX.out.base.2
                  clear hpk1 hrp1
                  obtain ⟨lp1, hlp1⟩ : ∃ lp, lp = adj.getD p [] := ⟨_, rfl⟩
                  rw [← hlp1] at fp1 LP1 NP1 AP1
                  have HLP1 := Lib.hid hlp1
                  clear hlp1
                  have hlp131 : lp1.length ≤ 13 := by rw [LP1.out]; exact hn2
                  have hlv131 : li.length ≤ 13 := by rw [LI.out]; exact hn2
                  refine region_TQ 11 (fun w' => w'.cell? ⟨wr.heap.size, 1, none⟩ = some (.int .i64 (p : Int)) ∧ w'.cell? ⟨g, p, none⟩ = some (.slice ap1 lp1.length cp1) ∧ w'.frozen? ⟨g, p, none⟩ = false) (by kernel_rfl) (⟨xc1, fp1, ff1⟩) (fun _ _ d _ _ h => by cases d <;> exact h) (fun HQ hHeld => ?_)
                  refine anyT_take (i := 0) (v := ?vT0_3) rfl (by kernel_rfl) (fun c a w h => HQ.out c a _ _ w h) (Or.inl ⟨by rfl, ?hT0_3⟩) hHeld ?rT0_3
                  case hT0_3 => (intro wS hSw; (try dsimp only at hSw); go_simp; try with_reducible rfl)
                  simp only [Act.put]
                  refine anyT_take (i := 1) (v := ?vT1_3) rfl (by kernel_rfl) (fun c a w h => HQ.out c a _ _ w h) (Or.inl ⟨by rfl, ?hT1_3⟩) hHeld ?rT1_3
                  case hT1_3 => (intro wS hSw; (try dsimp only at hSw); go_simp; try with_reducible rfl)
                  simp only [Act.put]
                  refine anyT_take (i := 2) (v := ?vT2_3) rfl (by kernel_rfl) (fun c a w h => HQ.out c a _ _ w h) (Or.inl ⟨by rfl, ?hT2_3⟩) hHeld ?rT2_3
                  case hT2_3 => (intro wS hSw; (try dsimp only at hSw); go_simp; try with_reducible rfl)
                  simp only [Act.put]
                  refine anyT_take (i := 3) (v := ?vT3_3) rfl (by kernel_rfl) (fun c a w h => HQ.out c a _ _ w h) (Or.inl ⟨by rfl, ?hT3_3⟩) hHeld ?rT3_3
                  case hT3_3 => (intro wS hSw; (try dsimp only at hSw); go_simp; try with_reducible rfl)
                  simp only [Act.put]
                  refine anyT_take (i := 4) (v := ?vT4_3) rfl (by kernel_rfl) (fun c a w h => HQ.out c a _ _ w h) (Or.inl ⟨by rfl, ?hT4_3⟩) hHeld ?rT4_3
                  case hT4_3 => (intro wS hSw; (try dsimp only at hSw); go_simp; try with_reducible rfl)
                  simp only [Act.put]
                  refine anyT_take (i := 5) (v := ?vT5_3) rfl (by kernel_rfl) (fun c a w h => HQ.out c a _ _ w h) (Or.inl ⟨by rfl, ?hT5_3⟩) hHeld ?rT5_3
                  case hT5_3 => (intro wS hSw; (try dsimp only at hSw); go_simp; try with_reducible rfl)
                  simp only [Act.put]
                  refine anyT_take (i := 6) (v := ?vT6_3) rfl (by kernel_rfl) (fun c a w h => HQ.out c a _ _ w h) (Or.inl ⟨by rfl, ?hT6_3⟩) hHeld ?rT6_3
                  case hT6_3 => (intro wS hSw; (try dsimp only at hSw); go_simp; try with_reducible rfl)
                  simp only [Act.put]
                  refine anyT_take (i := 7) (v := ?vT7_3) rfl (by kernel_rfl) (fun c a w h => HQ.out c a _ _ w h) (Or.inl ⟨by rfl, ?hT7_3⟩) hHeld ?rT7_3
                  case hT7_3 => (intro wS hSw; (try dsimp only at hSw); go_simp; try with_reducible rfl)
                  simp only [Act.put]
                  refine anyT_take (i := 8) (v := ?vT8_3) rfl (by kernel_rfl) (fun c a w h => HQ.out c a _ _ w h) (Or.inl ⟨by rfl, ?hT8_3⟩) hHeld ?rT8_3
                  case hT8_3 => (intro wS hSw; (try dsimp only at hSw); go_simp; try with_reducible rfl)
                  simp only [Act.put]
                  refine anyT_step (i := 9) rfl (by kernel_rfl) (fun K hK => ?_)
                  clear hHeld
                  go_simp
                  refine (sAdd _ _ _ _ lp1 li _ (AP1.out.at.below (tbdrew (Below.refl _ _)) (Nat.le_refl _)) (HIX.out.at.below (tbdrew (Below.refl _ _)) (Nat.le_refl _)) NP1.out.rng NI.out.rng (by show _ = _; rw [LI.out, LP1.out]) (by omega)).mono ?_; rintro e w91 ⟨g91, c91, rfl, ho91, hb91'⟩
                  have hb91 : Below WX.heap.size WX w91 := ⟨hb91'.os, hb91'.tape, hb91'.output, hb91'.size, hb91'.block⟩
                  have h81 : WX.heap.size ≤ WX.drew.heap.size := Nat.le_refl _
                  go_wp2_with fail
                  refine hK.out _ _ (⟨(hb91.cell (p := ⟨wr.heap.size, 1, none⟩) lbX).trans xc1, (hb91.cell (p := ⟨g, p, none⟩) lg1).trans fp1, (hb91.frozen (p := ⟨g, p, none⟩) lg1).trans ff1⟩) (fun hHeld => ?_)
                  clear hK K
                  try simp only [Act.put]
                  refine anyT_take (i := 10) (v := ?vT10_3) rfl (by kernel_rfl) (fun c a w h => HQ.out c a _ _ w h) (Or.inl ⟨by rfl, ?hT10_3⟩) hHeld ?rT10_3
                  case hT10_3 => (intro wS hSw; (try dsimp only at hSw); go_simp; try with_reducible rfl)
                  simp only [Act.put]
                  refine anyT_last rfl (by kernel_rfl) (by kernel_rfl) (fun K hK => ?_)
                  try dsimp only at hHeld
                  go_simp
                  refine hK.out _ _ ?_
                  clear hK K hHeld
                  have hset1 := (HOX.out.next hb91).set p (c := c91) (ho91.rw (g0 := g) (by have := ho91.base; omega))
                  have hwv1 := (HWX.out.trans (hb91.mono HWX.out.size)).setCell (p := ⟨g, p, none⟩) HGL.out (.slice (some ⟨g91, 0, none⟩) (addl lp1 li).length c91)
                  have hrw1 : Rw (w91.setCell ⟨g, p, none⟩ (.slice (some ⟨g91, 0, none⟩) (addl lp1 li).length c91)) g ai li := (HIX.out.next hb91).grow (grownBy_set _ _ _ _) (.inl rfl)
                  have q11 := cell_set_ne (v := .slice (some ⟨g91, 0, none⟩) (addl lp1 li).length c91) (q := ⟨g, p, none⟩) ((hb91.cell (p := ⟨wr.heap.size, 2, none⟩) lbX).trans xc2) (by show _ ≠ _; exact hbg)
                  have lb1 : wr.heap.size < (w91.setCell ⟨g, p, none⟩ (.slice (some ⟨g91, 0, none⟩) (addl lp1 li).length c91)).heap.size := by have := hb91.size; simp; omega
                  have HR1 : Hid (Rws (w91.setCell ⟨g, p, none⟩ (.slice (some ⟨g91, 0, none⟩) (addl lp1 li).length c91)) w.heap.size g cap (rAdd adj p li)) := by show Rws _ _ _ _ _; unfold rAdd; rw [← HLP1.out]; exact hset1
                  have HW1 := Lib.hid hwv1
                  have RW1 := Lib.hid hrw1
                  generalize w91.setCell ⟨g, p, none⟩ (.slice (some ⟨g91, 0, none⟩) (addl lp1 li).length c91) = V1 at *
                  clear hset1 hwv1 hrw1 fp1 ff1
                  have adj2L : Hid ((rAdd adj p li).length = t.code.length) := by show _ = _; rw [rAdd_len]; exact HL.out
                  have adj2O : Hid (RowsOk n (rAdd adj p li)) := rowsOk_add HO.out (by have := HL.out; omega)
                  obtain ⟨adj2, hadj2⟩ : ∃ a, a = rAdd adj p li := ⟨_, rfl⟩
                  rw [← hadj2] at adj2L adj2O HR1 HSP HSL HSO
                  clear hadj2
                  go_wp2_with fail
                  obtain ⟨ap2, cp2, fp2, hrp2⟩ := HR1.out.get (i := q) (by have := adj2L.out; omega)
                  have ff2 := HR1.out.frz q
                  have hpk2 := adj2O.out q (by have := adj2L.out; omega)
                  have LP2 := Lib.hid hpk2.1
                  have NP2 := Lib.hid hpk2.2
                  have AP2 := Lib.hid hrp2
                  have lg2 : g < V1.heap.size := HR1.out.base.2
                  clear hpk2 hrp2
                  obtain ⟨lp2, hlp2⟩ : ∃ lp, lp = adj2.getD q [] := ⟨_, rfl⟩
                  rw [← hlp2] at fp2 LP2 NP2 AP2
                  have HLP2 := Lib.hid hlp2
                  clear hlp2
                  have hlp132 : lp2.length ≤ 13 := by rw [LP2.out]; exact hn2
                  have hlv132 : li.length ≤ 13 := by rw [LI.out]; exact hn2
                  refine region_TQ 11 (fun w' => w'.cell? ⟨wr.heap.size, 2, none⟩ = some (.int .i64 (q : Int)) ∧ w'.cell? ⟨g, q, none⟩ = some (.slice ap2 lp2.length cp2) ∧ w'.frozen? ⟨g, q, none⟩ = false) (by kernel_rfl) (⟨q11, fp2, ff2⟩) (fun _ _ d _ _ h => by cases d <;> exact h) (fun HQ hHeld => ?_)
                  refine anyT_take (i := 0) (v := ?vT0_4) rfl (by kernel_rfl) (fun c a w h => HQ.out c a _ _ w h) (Or.inl ⟨by rfl, ?hT0_4⟩) hHeld ?rT0_4
                  case hT0_4 => (intro wS hSw; (try dsimp only at hSw); go_simp; try with_reducible rfl)
                  simp only [Act.put]
                  refine anyT_take (i := 1) (v := ?vT1_4) rfl (by kernel_rfl) (fun c a w h => HQ.out c a _ _ w h) (Or.inl ⟨by rfl, ?hT1_4⟩) hHeld ?rT1_4
                  case hT1_4 => (intro wS hSw; (try dsimp only at hSw); go_simp; try with_reducible rfl)
                  simp only [Act.put]
                  refine anyT_take (i := 2) (v := ?vT2_4) rfl (by kernel_rfl) (fun c a w h => HQ.out c a _ _ w h) (Or.inl ⟨by rfl, ?hT2_4⟩) hHeld ?rT2_4
                  case hT2_4 => (intro wS hSw; (try dsimp only at hSw); go_simp; try with_reducible rfl)
                  simp only [Act.put]
                  refine anyT_take (i := 3) (v := ?vT3_4) rfl (by kernel_rfl) (fun c a w h => HQ.out c a _ _ w h) (Or.inl ⟨by rfl, ?hT3_4⟩) hHeld ?rT3_4
                  case hT3_4 => (intro wS hSw; (try dsimp only at hSw); go_simp; try with_reducible rfl)
                  simp only [Act.put]
                  refine anyT_take (i := 4) (v := ?vT4_4) rfl (by kernel_rfl) (fun c a w h => HQ.out c a _ _ w h) (Or.inl ⟨by rfl, ?hT4_4⟩) hHeld ?rT4_4
                  case hT4_4 => (intro wS hSw; (try dsimp only at hSw); go_simp; try with_reducible rfl)
                  simp only [Act.put]
                  refine anyT_take (i := 5) (v := ?vT5_4) rfl (by kernel_rfl) (fun c a w h => HQ.out c a _ _ w h) (Or.inl ⟨by rfl, ?hT5_4⟩) hHeld ?rT5_4
                  case hT5_4 => (intro wS hSw; (try dsimp only at hSw); go_simp; try with_reducible rfl)
                  simp only [Act.put]
                  refine anyT_take (i := 6) (v := ?vT6_4) rfl (by kernel_rfl) (fun c a w h => HQ.out c a _ _ w h) (Or.inl ⟨by rfl, ?hT6_4⟩) hHeld ?rT6_4
                  case hT6_4 => (intro wS hSw; (try dsimp only at hSw); go_simp; try with_reducible rfl)
                  simp only [Act.put]
                  refine anyT_take (i := 7) (v := ?vT7_4) rfl (by kernel_rfl) (fun c a w h => HQ.out c a _ _ w h) (Or.inl ⟨by rfl, ?hT7_4⟩) hHeld ?rT7_4
                  case hT7_4 => (intro wS hSw; (try dsimp only at hSw); go_simp; try with_reducible rfl)
                  simp only [Act.put]
                  refine anyT_take (i := 8) (v := ?vT8_4) rfl (by kernel_rfl) (fun c a w h => HQ.out c a _ _ w h) (Or.inl ⟨by rfl, ?hT8_4⟩) hHeld ?rT8_4
                  case hT8_4 => (intro wS hSw; (try dsimp only at hSw); go_simp; try with_reducible rfl)
                  simp only [Act.put]
                  refine anyT_step (i := 9) rfl (by kernel_rfl) (fun K hK => ?_)
                  clear hHeld
                  go_simp
                  refine (sSub4 _ _ _ _ lp2 li _ (AP2.out.at.below (tbdrew (Below.refl _ _)) (Nat.le_refl _)) (RW1.out.at.below (tbdrew (Below.refl _ _)) (Nat.le_refl _)) NP2.out NI.out (by show _ = _; rw [LI.out, LP2.out]) (by omega)).mono ?_; rintro e w92 ⟨g92, c92, rfl, ho92, hb92'⟩
                  have hb92 : Below V1.heap.size V1 w92 := ⟨hb92'.os, hb92'.tape, hb92'.output, hb92'.size, hb92'.block⟩
                  have h82 : V1.heap.size ≤ V1.drew.heap.size := Nat.le_refl _
                  go_wp2_with fail
                  refine hK.out _ _ (⟨(hb92.cell (p := ⟨wr.heap.size, 2, none⟩) lb1).trans q11, (hb92.cell (p := ⟨g, q, none⟩) lg2).trans fp2, (hb92.frozen (p := ⟨g, q, none⟩) lg2).trans ff2⟩) (fun hHeld => ?_)
                  clear hK K
                  try simp only [Act.put]
                  refine anyT_take (i := 10) (v := ?vT10_4) rfl (by kernel_rfl) (fun c a w h => HQ.out c a _ _ w h) (Or.inl ⟨by rfl, ?hT10_4⟩) hHeld ?rT10_4
                  case hT10_4 => (intro wS hSw; (try dsimp only at hSw); go_simp; try with_reducible rfl)
                  simp only [Act.put]
                  refine anyT_last rfl (by kernel_rfl) (by kernel_rfl) (fun K hK => ?_)
                  try dsimp only at hHeld
                  go_simp
                  refine hK.out _ _ ?_
                  clear hK K hHeld
                  have hset2 := (HR1.out.next hb92).set q (c := c92) (ho92.rw (g0 := g) (by have := ho92.base; omega))
                  have hwv2 := (HW1.out.trans (hb92.mono HW1.out.size)).setCell (p := ⟨g, q, none⟩) HGL.out (.slice (some ⟨g92, 0, none⟩) (sub4 lp2 li).length c92)
                  have hrw2 : Rw (w92.setCell ⟨g, q, none⟩ (.slice (some ⟨g92, 0, none⟩) (sub4 lp2 li).length c92)) g ai li := (RW1.out.next hb92).grow (grownBy_set _ _ _ _) (.inl rfl)
                  have lb2 : wr.heap.size < (w92.setCell ⟨g, q, none⟩ (.slice (some ⟨g92, 0, none⟩) (sub4 lp2 li).length c92)).heap.size := by have := hb92.size; simp; omega
                  have HR2 : Hid (Rws (w92.setCell ⟨g, q, none⟩ (.slice (some ⟨g92, 0, none⟩) (sub4 lp2 li).length c92)) w.heap.size g cap (rSub adj2 q li)) := by show Rws _ _ _ _ _; unfold rSub; rw [← HLP2.out]; exact hset2
                  have HW2 := Lib.hid hwv2
                  have RW2 := Lib.hid hrw2
                  generalize w92.setCell ⟨g, q, none⟩ (.slice (some ⟨g92, 0, none⟩) (sub4 lp2 li).length c92) = V2 at *
                  clear hset2 hwv2 hrw2 fp2 ff2
                  go_wp2_with fail
                  go_roundw
                  case rel => exact ⟨k, _, by omega, by first | go_num | (simp; done) | omega, HSP, HSL, HSO, HR2.out, HW2.out⟩
                  case measure => simp [intOf] <;> omega
                ·
                  have hpr : (p : Int) < (rs.length : Int) := by have := hrl.out; omega
                  have hqr : (q : Int) < (rs.length : Int) := by have := hrl.out; omega
                  have HS : Hid (sprS ⟨5, (p : Int), (q : Int), m4⟩ k rs adj = rAdd (rAdd adj p (mull li (rs.getD q []))) q (mull li (rs.getD p []))) := by show _ = _; unfold sprS; rw [HLI.out]; simp only [Int.toNat_natCast]; simp
                  rw [HS.out] at HSP HSL HSO
                  go_wp2_with fail
                  try rw [← hWX]
                  clear hWX c0 c1 c2 c3 f0 f1 f2 f3 fi
                  have hrr1 := hR.next HWX.out
                  obtain ⟨aq1, cq1, fq1, hrq1⟩ := hrr1.get (i := q) (by have := hrl.out; omega)
                  have lgr1 : gr < WX.heap.size := hrr1.base.2
                  have hqq1 := hrs q (by have := hrl.out; omega)
                  have LQ1 := Lib.hid hqq1.1
                  have NQ1 := Lib.hid hqq1.2
                  have AQ1 := Lib.hid hrq1.at
                  clear hqq1 hrq1 hrr1
                  obtain ⟨lq1, hlq1⟩ : ∃ l, l = rs.getD q [] := ⟨_, rfl⟩
                  rw [← hlq1] at fq1 LQ1 NQ1 AQ1
                  have HLQ1 := Lib.hid hlq1
                  clear hlq1
                  have hlq131 : lq1.length ≤ 13 := by rw [LQ1.out]; exact hn2
                  rw [← HLQ1.out] at HSP HSL HSO
                  obtain ⟨ap1, cp1, fp1, hrp1⟩ := HOX.out.get (i := p) (by have := adjL.out; omega)
                  have ff1 := HOX.out.frz p
                  have hpk1 := adjO.out p (by have := adjL.out; omega)
                  have LP1 := Lib.hid hpk1.1
                  have NP1 := Lib.hid hpk1.2
                  have AP1 := Lib.hid hrp1
                  have lg1 : g < WX.heap.size := HOX.out.base.2
                  clear hpk1 hrp1
                  obtain ⟨lp1, hlp1⟩ : ∃ lp, lp = adj.getD p [] := ⟨_, rfl⟩
                  rw [← hlp1] at fp1 LP1 NP1 AP1
                  have HLP1 := Lib.hid hlp1
                  clear hlp1
                  have hlp131 : lp1.length ≤ 13 := by rw [LP1.out]; exact hn2
                  have hlv131 : li.length ≤ 13 := by rw [LI.out]; exact hn2
                  refine region_TQ 17 (fun w' => w'.cell? ⟨wr.heap.size, 1, none⟩ = some (.int .i64 (p : Int)) ∧ w'.cell? ⟨g, p, none⟩ = some (.slice ap1 lp1.length cp1) ∧ w'.cell? ⟨gr, q, none⟩ = some (.slice aq1 lq1.length cq1) ∧ w'.cell? ⟨wr.heap.size, 2, none⟩ = some (.int .i64 (q : Int)) ∧ w'.frozen? ⟨g, p, none⟩ = false) (by kernel_rfl) (⟨xc1, fp1, fq1, xc2, ff1⟩) (fun _ _ d _ _ h => by cases d <;> exact h) (fun HQ hHeld => ?_)
                  refine anyT_take (i := 0) (v := ?vT0_5) rfl (by kernel_rfl) (fun c a w h => HQ.out c a _ _ w h) (Or.inl ⟨by rfl, ?hT0_5⟩) hHeld ?rT0_5
                  case hT0_5 => (intro wS hSw; (try dsimp only at hSw); go_simp; try with_reducible rfl)
                  simp only [Act.put]
                  refine anyT_take (i := 1) (v := ?vT1_5) rfl (by kernel_rfl) (fun c a w h => HQ.out c a _ _ w h) (Or.inl ⟨by rfl, ?hT1_5⟩) hHeld ?rT1_5
                  case hT1_5 => (intro wS hSw; (try dsimp only at hSw); go_simp; try with_reducible rfl)
                  simp only [Act.put]
                  refine anyT_take (i := 2) (v := ?vT2_5) rfl (by kernel_rfl) (fun c a w h => HQ.out c a _ _ w h) (Or.inl ⟨by rfl, ?hT2_5⟩) hHeld ?rT2_5
                  case hT2_5 => (intro wS hSw; (try dsimp only at hSw); go_simp; try with_reducible rfl)
                  simp only [Act.put]
                  refine anyT_take (i := 3) (v := ?vT3_5) rfl (by kernel_rfl) (fun c a w h => HQ.out c a _ _ w h) (Or.inl ⟨by rfl, ?hT3_5⟩) hHeld ?rT3_5
                  case hT3_5 => (intro wS hSw; (try dsimp only at hSw); go_simp; try with_reducible rfl)
                  simp only [Act.put]
                  refine anyT_take (i := 4) (v := ?vT4_5) rfl (by kernel_rfl) (fun c a w h => HQ.out c a _ _ w h) (Or.inl ⟨by rfl, ?hT4_5⟩) hHeld ?rT4_5
                  case hT4_5 => (intro wS hSw; (try dsimp only at hSw); go_simp; try with_reducible rfl)
                  simp only [Act.put]
                  refine anyT_take (i := 5) (v := ?vT5_5) rfl (by kernel_rfl) (fun c a w h => HQ.out c a _ _ w h) (Or.inl ⟨by rfl, ?hT5_5⟩) hHeld ?rT5_5
                  case hT5_5 => (intro wS hSw; (try dsimp only at hSw); go_simp; try with_reducible rfl)
                  simp only [Act.put]
                  refine anyT_take (i := 6) (v := ?vT6_5) rfl (by kernel_rfl) (fun c a w h => HQ.out c a _ _ w h) (Or.inl ⟨by rfl, ?hT6_5⟩) hHeld ?rT6_5
                  case hT6_5 => (intro wS hSw; (try dsimp only at hSw); go_simp; try with_reducible rfl)
                  simp only [Act.put]
                  refine anyT_take (i := 7) (v := ?vT7_5) rfl (by kernel_rfl) (fun c a w h => HQ.out c a _ _ w h) (Or.inl ⟨by rfl, ?hT7_5⟩) hHeld ?rT7_5
                  case hT7_5 => (intro wS hSw; (try dsimp only at hSw); go_simp; try with_reducible rfl)
                  simp only [Act.put]
                  refine anyT_take (i := 8) (v := ?vT8_5) rfl (by kernel_rfl) (fun c a w h => HQ.out c a _ _ w h) (Or.inl ⟨by rfl, ?hT8_5⟩) hHeld ?rT8_5
                  case hT8_5 => (intro wS hSw; (try dsimp only at hSw); go_simp; try with_reducible rfl)
                  simp only [Act.put]
                  refine anyT_take (i := 9) (v := ?vT9_5) rfl (by kernel_rfl) (fun c a w h => HQ.out c a _ _ w h) (Or.inl ⟨by rfl, ?hT9_5⟩) hHeld ?rT9_5
                  case hT9_5 => (intro wS hSw; (try dsimp only at hSw); go_simp; try with_reducible rfl)
                  simp only [Act.put]
                  refine anyT_take (i := 10) (v := ?vT10_5) rfl (by kernel_rfl) (fun c a w h => HQ.out c a _ _ w h) (Or.inl ⟨by rfl, ?hT10_5⟩) hHeld ?rT10_5
                  case hT10_5 => (intro wS hSw; (try dsimp only at hSw); go_simp; try with_reducible rfl)
                  simp only [Act.put]
                  refine anyT_take (i := 11) (v := ?vT11_5) rfl (by kernel_rfl) (fun c a w h => HQ.out c a _ _ w h) (Or.inl ⟨by rfl, ?hT11_5⟩) hHeld ?rT11_5
                  case hT11_5 => (intro wS hSw; (try dsimp only at hSw); go_simp; try with_reducible rfl)
                  simp only [Act.put]
                  refine anyT_take (i := 12) (v := ?vT12_5) rfl (by kernel_rfl) (fun c a w h => HQ.out c a _ _ w h) (Or.inl ⟨by rfl, ?hT12_5⟩) hHeld ?rT12_5
                  case hT12_5 => (intro wS hSw; (try dsimp only at hSw); go_simp; try with_reducible rfl)
                  simp only [Act.put]
                  refine anyT_take (i := 13) (v := ?vT13_5) rfl (by kernel_rfl) (fun c a w h => HQ.out c a _ _ w h) (Or.inl ⟨by rfl, ?hT13_5⟩) hHeld ?rT13_5
                  case hT13_5 => (intro wS hSw; (try dsimp only at hSw); go_simp; try with_reducible rfl)
                  simp only [Act.put]
                  refine anyT_step (i := 14) rfl (by kernel_rfl) (fun K hK => ?_)
                  clear hHeld
                  go_simp
                  refine (sMul _ _ _ _ li lq1 _ (HIX.out.at.below (tbdrew (Below.refl _ _)) (Nat.le_refl _)) (AQ1.out.below (tbdrew (Below.refl _ _)) (Nat.le_refl _)) NI.out.rng NQ1.out.rng (by show _ = _; rw [LQ1.out, LI.out]) (by omega)).mono ?_; rintro e w81 ⟨g81, c81, rfl, ho81, hb81'⟩
                  have hb81 : Below WX.heap.size WX w81 := ⟨hb81'.os, hb81'.tape, hb81'.output, hb81'.size, hb81'.block⟩
                  go_wp2_with fail
                  refine hK.out _ _ (⟨(hb81.cell (p := ⟨wr.heap.size, 1, none⟩) lbX).trans xc1, (hb81.cell (p := ⟨g, p, none⟩) lg1).trans fp1, (hb81.cell (p := ⟨gr, q, none⟩) lgr1).trans fq1, (hb81.cell (p := ⟨wr.heap.size, 2, none⟩) lbX).trans xc2, (hb81.frozen (p := ⟨g, p, none⟩) lg1).trans ff1⟩) (fun hHeld => ?_)
                  clear hK K
                  try simp only [Act.put]
                  refine anyT_step (i := 15) rfl (by kernel_rfl) (fun K hK => ?_)
                  clear hHeld
                  go_simp
                  refine (sAdd _ _ _ _ lp1 (mull li lq1) _ (AP1.out.at.below hb81 (Nat.le_refl _)) ho81.at NP1.out.rng (mull_nms _ _).rng (by show _ = _; rw [mull_len, LI.out, LP1.out]) (by omega)).mono ?_; rintro e w91 ⟨g91, c91, rfl, ho91, hb91'⟩
                  have hb91 : Below WX.heap.size WX w91 := hb81.trans (hb91'.mono hb81.size)
                  have h81 := hb81.size
                  go_wp2_with fail
                  refine hK.out _ _ (⟨(hb91.cell (p := ⟨wr.heap.size, 1, none⟩) lbX).trans xc1, (hb91.cell (p := ⟨g, p, none⟩) lg1).trans fp1, (hb91.cell (p := ⟨gr, q, none⟩) lgr1).trans fq1, (hb91.cell (p := ⟨wr.heap.size, 2, none⟩) lbX).trans xc2, (hb91.frozen (p := ⟨g, p, none⟩) lg1).trans ff1⟩) (fun hHeld => ?_)
                  clear hK K
                  try simp only [Act.put]
                  refine anyT_take (i := 16) (v := ?vT16_5) rfl (by kernel_rfl) (fun c a w h => HQ.out c a _ _ w h) (Or.inl ⟨by rfl, ?hT16_5⟩) hHeld ?rT16_5
                  case hT16_5 => (intro wS hSw; (try dsimp only at hSw); go_simp; try with_reducible rfl)
                  simp only [Act.put]
                  refine anyT_last rfl (by kernel_rfl) (by kernel_rfl) (fun K hK => ?_)
                  try dsimp only at hHeld
                  go_simp
                  refine hK.out _ _ ?_
                  clear hK K hHeld
                  have hset1 := (HOX.out.next hb91).set p (c := c91) (ho91.rw (g0 := g) (by have := ho91.base; omega))
                  have hwv1 := (HWX.out.trans (hb91.mono HWX.out.size)).setCell (p := ⟨g, p, none⟩) HGL.out (.slice (some ⟨g91, 0, none⟩) (addl lp1 (mull li lq1)).length c91)
                  have hrw1 : Rw (w91.setCell ⟨g, p, none⟩ (.slice (some ⟨g91, 0, none⟩) (addl lp1 (mull li lq1)).length c91)) g ai li := (HIX.out.next hb91).grow (grownBy_set _ _ _ _) (.inl rfl)
                  have q01 := cell_set_ne (v := .slice (some ⟨g91, 0, none⟩) (addl lp1 (mull li lq1)).length c91) (q := ⟨g, p, none⟩) ((hb91.cell (p := ⟨wr.heap.size, 1, none⟩) lbX).trans xc1) (by show _ ≠ _; exact hbg)
                  have q11 := cell_set_ne (v := .slice (some ⟨g91, 0, none⟩) (addl lp1 (mull li lq1)).length c91) (q := ⟨g, p, none⟩) ((hb91.cell (p := ⟨wr.heap.size, 2, none⟩) lbX).trans xc2) (by show _ ≠ _; exact hbg)
                  have lb1 : wr.heap.size < (w91.setCell ⟨g, p, none⟩ (.slice (some ⟨g91, 0, none⟩) (addl lp1 (mull li lq1)).length c91)).heap.size := by have := hb91.size; simp; omega
                  have HR1 : Hid (Rws (w91.setCell ⟨g, p, none⟩ (.slice (some ⟨g91, 0, none⟩) (addl lp1 (mull li lq1)).length c91)) w.heap.size g cap (rAdd adj p (mull li lq1))) := by show Rws _ _ _ _ _; unfold rAdd; rw [← HLP1.out]; exact hset1
                  have HW1 := Lib.hid hwv1
                  have RW1 := Lib.hid hrw1
                  generalize w91.setCell ⟨g, p, none⟩ (.slice (some ⟨g91, 0, none⟩) (addl lp1 (mull li lq1)).length c91) = V1 at *
                  clear hset1 hwv1 hrw1 fp1 ff1
                  have adj2L : Hid ((rAdd adj p (mull li lq1)).length = t.code.length) := by show _ = _; rw [rAdd_len]; exact HL.out
                  have adj2O : Hid (RowsOk n (rAdd adj p (mull li lq1))) := rowsOk_add HO.out (by have := HL.out; omega)
                  obtain ⟨adj2, hadj2⟩ : ∃ a, a = rAdd adj p (mull li lq1) := ⟨_, rfl⟩
                  rw [← hadj2] at adj2L adj2O HR1 HSP HSL HSO
                  clear hadj2
                  clear fq1 AQ1
                  go_wp2_with fail
                  have hrr2 := hR.next HW1.out
                  obtain ⟨aq2, cq2, fq2, hrq2⟩ := hrr2.get (i := p) (by have := hrl.out; omega)
                  have lgr2 : gr < V1.heap.size := hrr2.base.2
                  have hqq2 := hrs p (by have := hrl.out; omega)
                  have LQ2 := Lib.hid hqq2.1
                  have NQ2 := Lib.hid hqq2.2
                  have AQ2 := Lib.hid hrq2.at
                  clear hqq2 hrq2 hrr2
                  obtain ⟨lq2, hlq2⟩ : ∃ l, l = rs.getD p [] := ⟨_, rfl⟩
                  rw [← hlq2] at fq2 LQ2 NQ2 AQ2
                  have HLQ2 := Lib.hid hlq2
                  clear hlq2
                  have hlq132 : lq2.length ≤ 13 := by rw [LQ2.out]; exact hn2
                  rw [← HLQ2.out] at HSP HSL HSO
                  obtain ⟨ap2, cp2, fp2, hrp2⟩ := HR1.out.get (i := q) (by have := adj2L.out; omega)
                  have ff2 := HR1.out.frz q
                  have hpk2 := adj2O.out q (by have := adj2L.out; omega)
                  have LP2 := Lib.hid hpk2.1
                  have NP2 := Lib.hid hpk2.2
                  have AP2 := Lib.hid hrp2
                  have lg2 : g < V1.heap.size := HR1.out.base.2
                  clear hpk2 hrp2
                  obtain ⟨lp2, hlp2⟩ : ∃ lp, lp = adj2.getD q [] := ⟨_, rfl⟩
                  rw [← hlp2] at fp2 LP2 NP2 AP2
                  have HLP2 := Lib.hid hlp2
                  clear hlp2
                  have hlp132 : lp2.length ≤ 13 := by rw [LP2.out]; exact hn2
                  have hlv132 : li.length ≤ 13 := by rw [LI.out]; exact hn2
                  refine region_TQ 17 (fun w' => w'.cell? ⟨wr.heap.size, 2, none⟩ = some (.int .i64 (q : Int)) ∧ w'.cell? ⟨g, q, none⟩ = some (.slice ap2 lp2.length cp2) ∧ w'.cell? ⟨gr, p, none⟩ = some (.slice aq2 lq2.length cq2) ∧ w'.cell? ⟨wr.heap.size, 1, none⟩ = some (.int .i64 (p : Int)) ∧ w'.frozen? ⟨g, q, none⟩ = false) (by kernel_rfl) (⟨q11, fp2, fq2, q01, ff2⟩) (fun _ _ d _ _ h => by cases d <;> exact h) (fun HQ hHeld => ?_)
                  refine anyT_take (i := 0) (v := ?vT0_6) rfl (by kernel_rfl) (fun c a w h => HQ.out c a _ _ w h) (Or.inl ⟨by rfl, ?hT0_6⟩) hHeld ?rT0_6
                  case hT0_6 => (intro wS hSw; (try dsimp only at hSw); go_simp; try with_reducible rfl)
                  simp only [Act.put]
                  refine anyT_take (i := 1) (v := ?vT1_6) rfl (by kernel_rfl) (fun c a w h => HQ.out c a _ _ w h) (Or.inl ⟨by rfl, ?hT1_6⟩) hHeld ?rT1_6
                  case hT1_6 => (intro wS hSw; (try dsimp only at hSw); go_simp; try with_reducible rfl)
                  simp only [Act.put]
                  refine anyT_take (i := 2) (v := ?vT2_6) rfl (by kernel_rfl) (fun c a w h => HQ.out c a _ _ w h) (Or.inl ⟨by rfl, ?hT2_6⟩) hHeld ?rT2_6
                  case hT2_6 => (intro wS hSw; (try dsimp only at hSw); go_simp; try with_reducible rfl)
                  simp only [Act.put]
                  refine anyT_take (i := 3) (v := ?vT3_6) rfl (by kernel_rfl) (fun c a w h => HQ.out c a _ _ w h) (Or.inl ⟨by rfl, ?hT3_6⟩) hHeld ?rT3_6
                  case hT3_6 => (intro wS hSw; (try dsimp only at hSw); go_simp; try with_reducible rfl)
                  simp only [Act.put]
                  refine anyT_take (i := 4) (v := ?vT4_6) rfl (by kernel_rfl) (fun c a w h => HQ.out c a _ _ w h) (Or.inl ⟨by rfl, ?hT4_6⟩) hHeld ?rT4_6
                  case hT4_6 => (intro wS hSw; (try dsimp only at hSw); go_simp; try with_reducible rfl)
                  simp only [Act.put]
                  refine anyT_take (i := 5) (v := ?vT5_6) rfl (by kernel_rfl) (fun c a w h => HQ.out c a _ _ w h) (Or.inl ⟨by rfl, ?hT5_6⟩) hHeld ?rT5_6
                  case hT5_6 => (intro wS hSw; (try dsimp only at hSw); go_simp; try with_reducible rfl)
                  simp only [Act.put]
                  refine anyT_take (i := 6) (v := ?vT6_6) rfl (by kernel_rfl) (fun c a w h => HQ.out c a _ _ w h) (Or.inl ⟨by rfl, ?hT6_6⟩) hHeld ?rT6_6
                  case hT6_6 => (intro wS hSw; (try dsimp only at hSw); go_simp; try with_reducible rfl)
                  simp only [Act.put]
                  refine anyT_take (i := 7) (v := ?vT7_6) rfl (by kernel_rfl) (fun c a w h => HQ.out c a _ _ w h) (Or.inl ⟨by rfl, ?hT7_6⟩) hHeld ?rT7_6
                  case hT7_6 => (intro wS hSw; (try dsimp only at hSw); go_simp; try with_reducible rfl)
                  simp only [Act.put]
                  refine anyT_take (i := 8) (v := ?vT8_6) rfl (by kernel_rfl) (fun c a w h => HQ.out c a _ _ w h) (Or.inl ⟨by rfl, ?hT8_6⟩) hHeld ?rT8_6
                  case hT8_6 => (intro wS hSw; (try dsimp only at hSw); go_simp; try with_reducible rfl)
                  simp only [Act.put]
                  refine anyT_take (i := 9) (v := ?vT9_6) rfl (by kernel_rfl) (fun c a w h => HQ.out c a _ _ w h) (Or.inl ⟨by rfl, ?hT9_6⟩) hHeld ?rT9_6
                  case hT9_6 => (intro wS hSw; (try dsimp only at hSw); go_simp; try with_reducible rfl)
                  simp only [Act.put]
                  refine anyT_take (i := 10) (v := ?vT10_6) rfl (by kernel_rfl) (fun c a w h => HQ.out c a _ _ w h) (Or.inl ⟨by rfl, ?hT10_6⟩) hHeld ?rT10_6
                  case hT10_6 => (intro wS hSw; (try dsimp only at hSw); go_simp; try with_reducible rfl)
                  simp only [Act.put]
                  refine anyT_take (i := 11) (v := ?vT11_6) rfl (by kernel_rfl) (fun c a w h => HQ.out c a _ _ w h) (Or.inl ⟨by rfl, ?hT11_6⟩) hHeld ?rT11_6
                  case hT11_6 => (intro wS hSw; (try dsimp only at hSw); go_simp; try with_reducible rfl)
                  simp only [Act.put]
                  refine anyT_take (i := 12) (v := ?vT12_6) rfl (by kernel_rfl) (fun c a w h => HQ.out c a _ _ w h) (Or.inl ⟨by rfl, ?hT12_6⟩) hHeld ?rT12_6
                  case hT12_6 => (intro wS hSw; (try dsimp only at hSw); go_simp; try with_reducible rfl)
                  simp only [Act.put]
                  refine anyT_take (i := 13) (v := ?vT13_6) rfl (by kernel_rfl) (fun c a w h => HQ.out c a _ _ w h) (Or.inl ⟨by rfl, ?hT13_6⟩) hHeld ?rT13_6
                  case hT13_6 => (intro wS hSw; (try dsimp only at hSw); go_simp; try with_reducible rfl)
                  simp only [Act.put]
                  refine anyT_step (i := 14) rfl (by kernel_rfl) (fun K hK => ?_)
                  clear hHeld
                  go_simp
                  refine (sMul _ _ _ _ li lq2 _ (RW1.out.at.below (tbdrew (Below.refl _ _)) (Nat.le_refl _)) (AQ2.out.below (tbdrew (Below.refl _ _)) (Nat.le_refl _)) NI.out.rng NQ2.out.rng (by show _ = _; rw [LQ2.out, LI.out]) (by omega)).mono ?_; rintro e w82 ⟨g82, c82, rfl, ho82, hb82'⟩
                  have hb82 : Below V1.heap.size V1 w82 := ⟨hb82'.os, hb82'.tape, hb82'.output, hb82'.size, hb82'.block⟩
                  go_wp2_with fail
                  refine hK.out _ _ (⟨(hb82.cell (p := ⟨wr.heap.size, 2, none⟩) lb1).trans q11, (hb82.cell (p := ⟨g, q, none⟩) lg2).trans fp2, (hb82.cell (p := ⟨gr, p, none⟩) lgr2).trans fq2, (hb82.cell (p := ⟨wr.heap.size, 1, none⟩) lb1).trans q01, (hb82.frozen (p := ⟨g, q, none⟩) lg2).trans ff2⟩) (fun hHeld => ?_)
                  clear hK K
                  try simp only [Act.put]
                  refine anyT_step (i := 15) rfl (by kernel_rfl) (fun K hK => ?_)
                  clear hHeld
                  go_simp
                  refine (sAdd _ _ _ _ lp2 (mull li lq2) _ (AP2.out.at.below hb82 (Nat.le_refl _)) ho82.at NP2.out.rng (mull_nms _ _).rng (by show _ = _; rw [mull_len, LI.out, LP2.out]) (by omega)).mono ?_; rintro e w92 ⟨g92, c92, rfl, ho92, hb92'⟩
                  have hb92 : Below V1.heap.size V1 w92 := hb82.trans (hb92'.mono hb82.size)
                  have h82 := hb82.size
                  go_wp2_with fail
                  refine hK.out _ _ (⟨(hb92.cell (p := ⟨wr.heap.size, 2, none⟩) lb1).trans q11, (hb92.cell (p := ⟨g, q, none⟩) lg2).trans fp2, (hb92.cell (p := ⟨gr, p, none⟩) lgr2).trans fq2, (hb92.cell (p := ⟨wr.heap.size, 1, none⟩) lb1).trans q01, (hb92.frozen (p := ⟨g, q, none⟩) lg2).trans ff2⟩) (fun hHeld => ?_)
                  clear hK K
                  try simp only [Act.put]
                  refine anyT_take (i := 16) (v := ?vT16_6) rfl (by kernel_rfl) (fun c a w h => HQ.out c a _ _ w h) (Or.inl ⟨by rfl, ?hT16_6⟩) hHeld ?rT16_6
                  case hT16_6 => (intro wS hSw; (try dsimp only at hSw); go_simp; try with_reducible rfl)
                  simp only [Act.put]
                  refine anyT_last rfl (by kernel_rfl) (by kernel_rfl) (fun K hK => ?_)
                  try dsimp only at hHeld
                  go_simp
                  refine hK.out _ _ ?_
                  clear hK K hHeld
                  have hset2 := (HR1.out.next hb92).set q (c := c92) (ho92.rw (g0 := g) (by have := ho92.base; omega))
                  have hwv2 := (HW1.out.trans (hb92.mono HW1.out.size)).setCell (p := ⟨g, q, none⟩) HGL.out (.slice (some ⟨g92, 0, none⟩) (addl lp2 (mull li lq2)).length c92)
                  have hrw2 : Rw (w92.setCell ⟨g, q, none⟩ (.slice (some ⟨g92, 0, none⟩) (addl lp2 (mull li lq2)).length c92)) g ai li := (RW1.out.next hb92).grow (grownBy_set _ _ _ _) (.inl rfl)
                  have lb2 : wr.heap.size < (w92.setCell ⟨g, q, none⟩ (.slice (some ⟨g92, 0, none⟩) (addl lp2 (mull li lq2)).length c92)).heap.size := by have := hb92.size; simp; omega
                  have HR2 : Hid (Rws (w92.setCell ⟨g, q, none⟩ (.slice (some ⟨g92, 0, none⟩) (addl lp2 (mull li lq2)).length c92)) w.heap.size g cap (rAdd adj2 q (mull li lq2))) := by show Rws _ _ _ _ _; unfold rAdd; rw [← HLP2.out]; exact hset2
                  have HW2 := Lib.hid hwv2
                  have RW2 := Lib.hid hrw2
                  generalize w92.setCell ⟨g, q, none⟩ (.slice (some ⟨g92, 0, none⟩) (addl lp2 (mull li lq2)).length c92) = V2 at *
                  clear hset2 hwv2 hrw2 fp2 ff2
                  go_wp2_with fail
                  go_roundw
                  case rel => exact ⟨k, _, by omega, by first | go_num | (simp; done) | omega, HSP, HSL, HSO, HR2.out, HW2.out⟩
                  case measure => simp [intOf] <;> omega
                ·
                  have hqr : (q : Int) < (rs.length : Int) := by have := hrl.out; omega
                  have hkr : (k : Int) < (rs.length : Int) := by have := hrl.out; omega
                  have HS : Hid (sprS ⟨6, (p : Int), (q : Int), m4⟩ k rs adj = rSub (rAdd adj p (divl li (rs.getD q []))) q (mull (divl li (rs.getD q [])) (rs.getD k []))) := by show _ = _; unfold sprS; rw [HLI.out]; simp only [Int.toNat_natCast]; simp
                  rw [HS.out] at HSP HSL HSO
                  have hrr1 := hR.next HWX.out
                  obtain ⟨aq1, cq1, fq1, hrq1⟩ := hrr1.get (i := q) (by have := hrl.out; omega)
                  have lgr1 : gr < WX.heap.size := hrr1.base.2
                  have hqq1 := hrs q (by have := hrl.out; omega)
                  have LQ1 := Lib.hid hqq1.1
                  have NQ1 := Lib.hid hqq1.2
                  have AQ1 := Lib.hid hrq1.at
                  clear hqq1 hrq1 hrr1
                  obtain ⟨lq1, hlq1⟩ : ∃ l, l = rs.getD q [] := ⟨_, rfl⟩
                  rw [← hlq1] at fq1 LQ1 NQ1 AQ1
                  have HLQ1 := Lib.hid hlq1
                  clear hlq1
                  have hlq131 : lq1.length ≤ 13 := by rw [LQ1.out]; exact hn2
                  rw [← HLQ1.out] at HSP HSL HSO
                  have fqw := fq1
                  rw [hWX] at fqw
                  go_wp2_with fail
                  try rw [← hWX]
                  clear hWX c0 c1 c2 c3 f0 f1 f2 f3 fi fqw
                  refine (sDiv _ _ _ _ li lq1 _ HIX.out.at AQ1.out NI.out NQ1.out (by show _ = _; rw [LQ1.out, LI.out]) (by rw [LI.out]; exact hn1) (by rw [LI.out]; omega)).mono ?_; rintro e w5 ⟨g5, c5, rfl, o5, b5⟩
                  have LS : Hid ((divl li lq1).length = n) := by show _ = _; rw [divl_len]; exact LI.out
                  have NS : Hid (Nums (divl li lq1)) := divl_nums4 _ _
                  have hg5 := HOX.out.base.2
                  have RS := Lib.hid (o5.rw (g0 := g) (by have := o5.base; omega))
                  have HW5 := Lib.hid (HWX.out.trans (b5.mono HWX.out.size))
                  have HR5 := Lib.hid (HOX.out.next b5)
                  have y1 := (b5.cell (p := ⟨wr.heap.size, 1, none⟩) lbX).trans xc1
                  have y2 := (b5.cell (p := ⟨wr.heap.size, 2, none⟩) lbX).trans xc2
                  have lb5 : wr.heap.size < w5.heap.size := Nat.lt_of_lt_of_le lbX b5.size
                  clear o5 b5 fq1 AQ1 xc1 xc2 hg5
                  generalize divl li lq1 = sh at *
                  go_wp2_with fail
                  obtain ⟨ap1, cp1, fp1, hrp1⟩ := HR5.out.get (i := p) (by have := adjL.out; omega)
                  have ff1 := HR5.out.frz p
                  have hpk1 := adjO.out p (by have := adjL.out; omega)
                  have LP1 := Lib.hid hpk1.1
                  have NP1 := Lib.hid hpk1.2
                  have AP1 := Lib.hid hrp1
                  have lg1 : g < w5.heap.size := HR5.out.base.2
                  clear hpk1 hrp1
                  obtain ⟨lp1, hlp1⟩ : ∃ lp, lp = adj.getD p [] := ⟨_, rfl⟩
                  rw [← hlp1] at fp1 LP1 NP1 AP1
                  have HLP1 := Lib.hid hlp1
                  clear hlp1
                  have hlp131 : lp1.length ≤ 13 := by rw [LP1.out]; exact hn2
                  have hlv131 : sh.length ≤ 13 := by rw [LS.out]; exact hn2
                  refine region_TQ 11 (fun w' => w'.cell? ⟨wr.heap.size, 1, none⟩ = some (.int .i64 (p : Int)) ∧ w'.cell? ⟨g, p, none⟩ = some (.slice ap1 lp1.length cp1) ∧ w'.frozen? ⟨g, p, none⟩ = false) (by kernel_rfl) (⟨y1, fp1, ff1⟩) (fun _ _ d _ _ h => by cases d <;> exact h) (fun HQ hHeld => ?_)
                  refine anyT_take (i := 0) (v := ?vT0_7) rfl (by kernel_rfl) (fun c a w h => HQ.out c a _ _ w h) (Or.inl ⟨by rfl, ?hT0_7⟩) hHeld ?rT0_7
                  case hT0_7 => (intro wS hSw; (try dsimp only at hSw); go_simp; try with_reducible rfl)
                  simp only [Act.put]
                  refine anyT_take (i := 1) (v := ?vT1_7) rfl (by kernel_rfl) (fun c a w h => HQ.out c a _ _ w h) (Or.inl ⟨by rfl, ?hT1_7⟩) hHeld ?rT1_7
                  case hT1_7 => (intro wS hSw; (try dsimp only at hSw); go_simp; try with_reducible rfl)
                  simp only [Act.put]
                  refine anyT_take (i := 2) (v := ?vT2_7) rfl (by kernel_rfl) (fun c a w h => HQ.out c a _ _ w h) (Or.inl ⟨by rfl, ?hT2_7⟩) hHeld ?rT2_7
                  case hT2_7 => (intro wS hSw; (try dsimp only at hSw); go_simp; try with_reducible rfl)
                  simp only [Act.put]
                  refine anyT_take (i := 3) (v := ?vT3_7) rfl (by kernel_rfl) (fun c a w h => HQ.out c a _ _ w h) (Or.inl ⟨by rfl, ?hT3_7⟩) hHeld ?rT3_7
                  case hT3_7 => (intro wS hSw; (try dsimp only at hSw); go_simp; try with_reducible rfl)
                  simp only [Act.put]
                  refine anyT_take (i := 4) (v := ?vT4_7) rfl (by kernel_rfl) (fun c a w h => HQ.out c a _ _ w h) (Or.inl ⟨by rfl, ?hT4_7⟩) hHeld ?rT4_7
                  case hT4_7 => (intro wS hSw; (try dsimp only at hSw); go_simp; try with_reducible rfl)
                  simp only [Act.put]
                  refine anyT_take (i := 5) (v := ?vT5_7) rfl (by kernel_rfl) (fun c a w h => HQ.out c a _ _ w h) (Or.inl ⟨by rfl, ?hT5_7⟩) hHeld ?rT5_7
                  case hT5_7 => (intro wS hSw; (try dsimp only at hSw); go_simp; try with_reducible rfl)
                  simp only [Act.put]
                  refine anyT_take (i := 6) (v := ?vT6_7) rfl (by kernel_rfl) (fun c a w h => HQ.out c a _ _ w h) (Or.inl ⟨by rfl, ?hT6_7⟩) hHeld ?rT6_7
                  case hT6_7 => (intro wS hSw; (try dsimp only at hSw); go_simp; try with_reducible rfl)
                  simp only [Act.put]
                  refine anyT_take (i := 7) (v := ?vT7_7) rfl (by kernel_rfl) (fun c a w h => HQ.out c a _ _ w h) (Or.inl ⟨by rfl, ?hT7_7⟩) hHeld ?rT7_7
                  case hT7_7 => (intro wS hSw; (try dsimp only at hSw); go_simp; try with_reducible rfl)
                  simp only [Act.put]
                  refine anyT_take (i := 8) (v := ?vT8_7) rfl (by kernel_rfl) (fun c a w h => HQ.out c a _ _ w h) (Or.inl ⟨by rfl, ?hT8_7⟩) hHeld ?rT8_7
                  case hT8_7 => (intro wS hSw; (try dsimp only at hSw); go_simp; try with_reducible rfl)
                  simp only [Act.put]
                  refine anyT_step (i := 9) rfl (by kernel_rfl) (fun K hK => ?_)
                  clear hHeld
                  go_simp
                  refine (sAdd _ _ _ _ lp1 sh _ (AP1.out.at.below (tbdrew (Below.refl _ _)) (Nat.le_refl _)) (RS.out.at.below (tbdrew (Below.refl _ _)) (Nat.le_refl _)) NP1.out.rng NS.out.rng (by show _ = _; rw [LS.out, LP1.out]) (by omega)).mono ?_; rintro e w91 ⟨g91, c91, rfl, ho91, hb91'⟩
                  have hb91 : Below w5.heap.size w5 w91 := ⟨hb91'.os, hb91'.tape, hb91'.output, hb91'.size, hb91'.block⟩
                  have h81 : w5.heap.size ≤ w5.drew.heap.size := Nat.le_refl _
                  go_wp2_with fail
                  refine hK.out _ _ (⟨(hb91.cell (p := ⟨wr.heap.size, 1, none⟩) lb5).trans y1, (hb91.cell (p := ⟨g, p, none⟩) lg1).trans fp1, (hb91.frozen (p := ⟨g, p, none⟩) lg1).trans ff1⟩) (fun hHeld => ?_)
                  clear hK K
                  try simp only [Act.put]
                  refine anyT_take (i := 10) (v := ?vT10_7) rfl (by kernel_rfl) (fun c a w h => HQ.out c a _ _ w h) (Or.inl ⟨by rfl, ?hT10_7⟩) hHeld ?rT10_7
                  case hT10_7 => (intro wS hSw; (try dsimp only at hSw); go_simp; try with_reducible rfl)
                  simp only [Act.put]
                  refine anyT_last rfl (by kernel_rfl) (by kernel_rfl) (fun K hK => ?_)
                  try dsimp only at hHeld
                  go_simp
                  refine hK.out _ _ ?_
                  clear hK K hHeld
                  have hset1 := (HR5.out.next hb91).set p (c := c91) (ho91.rw (g0 := g) (by have := ho91.base; omega))
                  have hwv1 := (HW5.out.trans (hb91.mono HW5.out.size)).setCell (p := ⟨g, p, none⟩) HGL.out (.slice (some ⟨g91, 0, none⟩) (addl lp1 sh).length c91)
                  have hrw1 : Rw (w91.setCell ⟨g, p, none⟩ (.slice (some ⟨g91, 0, none⟩) (addl lp1 sh).length c91)) g (some ⟨g5, 0, none⟩) sh := (RS.out.next hb91).grow (grownBy_set _ _ _ _) (.inl rfl)
                  have q11 := cell_set_ne (v := .slice (some ⟨g91, 0, none⟩) (addl lp1 sh).length c91) (q := ⟨g, p, none⟩) ((hb91.cell (p := ⟨wr.heap.size, 2, none⟩) lb5).trans y2) (by show _ ≠ _; exact hbg)
                  have lb1 : wr.heap.size < (w91.setCell ⟨g, p, none⟩ (.slice (some ⟨g91, 0, none⟩) (addl lp1 sh).length c91)).heap.size := by have := hb91.size; simp; omega
                  have HR1 : Hid (Rws (w91.setCell ⟨g, p, none⟩ (.slice (some ⟨g91, 0, none⟩) (addl lp1 sh).length c91)) w.heap.size g cap (rAdd adj p sh)) := by show Rws _ _ _ _ _; unfold rAdd; rw [← HLP1.out]; exact hset1
                  have HW1 := Lib.hid hwv1
                  have RW1 := Lib.hid hrw1
                  generalize w91.setCell ⟨g, p, none⟩ (.slice (some ⟨g91, 0, none⟩) (addl lp1 sh).length c91) = V1 at *
                  clear hset1 hwv1 hrw1 fp1 ff1
                  have adj2L : Hid ((rAdd adj p sh).length = t.code.length) := by show _ = _; rw [rAdd_len]; exact HL.out
                  have adj2O : Hid (RowsOk n (rAdd adj p sh)) := rowsOk_add HO.out (by have := HL.out; omega)
                  obtain ⟨adj2, hadj2⟩ : ∃ a, a = rAdd adj p sh := ⟨_, rfl⟩
                  rw [← hadj2] at adj2L adj2O HR1 HSP HSL HSO
                  clear hadj2
                  go_wp2_with fail
                  have hrr2 := hR.next HW1.out
                  obtain ⟨aq2, cq2, fq2, hrq2⟩ := hrr2.get (i := k) (by have := hrl.out; omega)
                  have lgr2 : gr < V1.heap.size := hrr2.base.2
                  have hqq2 := hrs k (by have := hrl.out; omega)
                  have LQ2 := Lib.hid hqq2.1
                  have NQ2 := Lib.hid hqq2.2
                  have AQ2 := Lib.hid hrq2.at
                  clear hqq2 hrq2 hrr2
                  obtain ⟨lq2, hlq2⟩ : ∃ l, l = rs.getD k [] := ⟨_, rfl⟩
                  rw [← hlq2] at fq2 LQ2 NQ2 AQ2
                  have HLQ2 := Lib.hid hlq2
                  clear hlq2
                  have hlq132 : lq2.length ≤ 13 := by rw [LQ2.out]; exact hn2
                  rw [← HLQ2.out] at HSP HSL HSO
                  obtain ⟨ap2, cp2, fp2, hrp2⟩ := HR1.out.get (i := q) (by have := adj2L.out; omega)
                  have ff2 := HR1.out.frz q
                  have hpk2 := adj2O.out q (by have := adj2L.out; omega)
                  have LP2 := Lib.hid hpk2.1
                  have NP2 := Lib.hid hpk2.2
                  have AP2 := Lib.hid hrp2
                  have lg2 : g < V1.heap.size := HR1.out.base.2
                  clear hpk2 hrp2
                  obtain ⟨lp2, hlp2⟩ : ∃ lp, lp = adj2.getD q [] := ⟨_, rfl⟩
                  rw [← hlp2] at fp2 LP2 NP2 AP2
                  have HLP2 := Lib.hid hlp2
                  clear hlp2
                  have hlp132 : lp2.length ≤ 13 := by rw [LP2.out]; exact hn2
                  have hlv132 : sh.length ≤ 13 := by rw [LS.out]; exact hn2
                  refine region_TQ 16 (fun w' => w'.cell? ⟨wr.heap.size, 2, none⟩ = some (.int .i64 (q : Int)) ∧ w'.cell? ⟨g, q, none⟩ = some (.slice ap2 lp2.length cp2) ∧ w'.cell? ⟨gr, k, none⟩ = some (.slice aq2 lq2.length cq2) ∧ w'.frozen? ⟨g, q, none⟩ = false) (by kernel_rfl) (⟨q11, fp2, fq2, ff2⟩) (fun _ _ d _ _ h => by cases d <;> exact h) (fun HQ hHeld => ?_)
                  refine anyT_take (i := 0) (v := ?vT0_8) rfl (by kernel_rfl) (fun c a w h => HQ.out c a _ _ w h) (Or.inl ⟨by rfl, ?hT0_8⟩) hHeld ?rT0_8
                  case hT0_8 => (intro wS hSw; (try dsimp only at hSw); go_simp; try with_reducible rfl)
                  simp only [Act.put]
                  refine anyT_take (i := 1) (v := ?vT1_8) rfl (by kernel_rfl) (fun c a w h => HQ.out c a _ _ w h) (Or.inl ⟨by rfl, ?hT1_8⟩) hHeld ?rT1_8
                  case hT1_8 => (intro wS hSw; (try dsimp only at hSw); go_simp; try with_reducible rfl)
                  simp only [Act.put]
                  refine anyT_take (i := 2) (v := ?vT2_8) rfl (by kernel_rfl) (fun c a w h => HQ.out c a _ _ w h) (Or.inl ⟨by rfl, ?hT2_8⟩) hHeld ?rT2_8
                  case hT2_8 => (intro wS hSw; (try dsimp only at hSw); go_simp; try with_reducible rfl)
                  simp only [Act.put]
                  refine anyT_take (i := 3) (v := ?vT3_8) rfl (by kernel_rfl) (fun c a w h => HQ.out c a _ _ w h) (Or.inl ⟨by rfl, ?hT3_8⟩) hHeld ?rT3_8
                  case hT3_8 => (intro wS hSw; (try dsimp only at hSw); go_simp; try with_reducible rfl)
                  simp only [Act.put]
                  refine anyT_take (i := 4) (v := ?vT4_8) rfl (by kernel_rfl) (fun c a w h => HQ.out c a _ _ w h) (Or.inl ⟨by rfl, ?hT4_8⟩) hHeld ?rT4_8
                  case hT4_8 => (intro wS hSw; (try dsimp only at hSw); go_simp; try with_reducible rfl)
                  simp only [Act.put]
                  refine anyT_take (i := 5) (v := ?vT5_8) rfl (by kernel_rfl) (fun c a w h => HQ.out c a _ _ w h) (Or.inl ⟨by rfl, ?hT5_8⟩) hHeld ?rT5_8
                  case hT5_8 => (intro wS hSw; (try dsimp only at hSw); go_simp; try with_reducible rfl)
                  simp only [Act.put]
                  refine anyT_take (i := 6) (v := ?vT6_8) rfl (by kernel_rfl) (fun c a w h => HQ.out c a _ _ w h) (Or.inl ⟨by rfl, ?hT6_8⟩) hHeld ?rT6_8
                  case hT6_8 => (intro wS hSw; (try dsimp only at hSw); go_simp; try with_reducible rfl)
                  simp only [Act.put]
                  refine anyT_take (i := 7) (v := ?vT7_8) rfl (by kernel_rfl) (fun c a w h => HQ.out c a _ _ w h) (Or.inl ⟨by rfl, ?hT7_8⟩) hHeld ?rT7_8
                  case hT7_8 => (intro wS hSw; (try dsimp only at hSw); go_simp; try with_reducible rfl)
                  simp only [Act.put]
                  refine anyT_take (i := 8) (v := ?vT8_8) rfl (by kernel_rfl) (fun c a w h => HQ.out c a _ _ w h) (Or.inl ⟨by rfl, ?hT8_8⟩) hHeld ?rT8_8
                  case hT8_8 => (intro wS hSw; (try dsimp only at hSw); go_simp; try with_reducible rfl)
                  simp only [Act.put]
                  refine anyT_take (i := 9) (v := ?vT9_8) rfl (by kernel_rfl) (fun c a w h => HQ.out c a _ _ w h) (Or.inl ⟨by rfl, ?hT9_8⟩) hHeld ?rT9_8
                  case hT9_8 => (intro wS hSw; (try dsimp only at hSw); go_simp; try with_reducible rfl)
                  simp only [Act.put]
                  refine anyT_take (i := 10) (v := ?vT10_8) rfl (by kernel_rfl) (fun c a w h => HQ.out c a _ _ w h) (Or.inl ⟨by rfl, ?hT10_8⟩) hHeld ?rT10_8
                  case hT10_8 => (intro wS hSw; (try dsimp only at hSw); go_simp; try with_reducible rfl)
                  simp only [Act.put]
                  refine anyT_take (i := 11) (v := ?vT11_8) rfl (by kernel_rfl) (fun c a w h => HQ.out c a _ _ w h) (Or.inl ⟨by rfl, ?hT11_8⟩) hHeld ?rT11_8
                  case hT11_8 => (intro wS hSw; (try dsimp only at hSw); go_simp; try with_reducible rfl)
                  simp only [Act.put]
                  refine anyT_take (i := 12) (v := ?vT12_8) rfl (by kernel_rfl) (fun c a w h => HQ.out c a _ _ w h) (Or.inl ⟨by rfl, ?hT12_8⟩) hHeld ?rT12_8
                  case hT12_8 => (intro wS hSw; (try dsimp only at hSw); go_simp; try with_reducible rfl)
                  simp only [Act.put]
                  refine anyT_step (i := 13) rfl (by kernel_rfl) (fun K hK => ?_)
                  clear hHeld
                  go_simp
                  refine (sMul _ _ _ _ sh lq2 _ (RW1.out.at.below (tbdrew (Below.refl _ _)) (Nat.le_refl _)) (AQ2.out.below (tbdrew (Below.refl _ _)) (Nat.le_refl _)) NS.out.rng NQ2.out.rng (by show _ = _; rw [LQ2.out, LS.out]) (by omega)).mono ?_; rintro e w82 ⟨g82, c82, rfl, ho82, hb82'⟩
                  have hb82 : Below V1.heap.size V1 w82 := ⟨hb82'.os, hb82'.tape, hb82'.output, hb82'.size, hb82'.block⟩
                  go_wp2_with fail
                  refine hK.out _ _ (⟨(hb82.cell (p := ⟨wr.heap.size, 2, none⟩) lb1).trans q11, (hb82.cell (p := ⟨g, q, none⟩) lg2).trans fp2, (hb82.cell (p := ⟨gr, k, none⟩) lgr2).trans fq2, (hb82.frozen (p := ⟨g, q, none⟩) lg2).trans ff2⟩) (fun hHeld => ?_)
                  clear hK K
                  try simp only [Act.put]
                  refine anyT_step (i := 14) rfl (by kernel_rfl) (fun K hK => ?_)
                  clear hHeld
                  go_simp
                  refine (sSub4 _ _ _ _ lp2 (mull sh lq2) _ (AP2.out.at.below hb82 (Nat.le_refl _)) ho82.at NP2.out (mull_nms _ _) (by show _ = _; rw [mull_len, LS.out, LP2.out]) (by omega)).mono ?_; rintro e w92 ⟨g92, c92, rfl, ho92, hb92'⟩
                  have hb92 : Below V1.heap.size V1 w92 := hb82.trans (hb92'.mono hb82.size)
                  have h82 := hb82.size
                  go_wp2_with fail
                  refine hK.out _ _ (⟨(hb92.cell (p := ⟨wr.heap.size, 2, none⟩) lb1).trans q11, (hb92.cell (p := ⟨g, q, none⟩) lg2).trans fp2, (hb92.cell (p := ⟨gr, k, none⟩) lgr2).trans fq2, (hb92.frozen (p := ⟨g, q, none⟩) lg2).trans ff2⟩) (fun hHeld => ?_)
                  clear hK K
                  try simp only [Act.put]
                  refine anyT_take (i := 15) (v := ?vT15_8) rfl (by kernel_rfl) (fun c a w h => HQ.out c a _ _ w h) (Or.inl ⟨by rfl, ?hT15_8⟩) hHeld ?rT15_8
                  case hT15_8 => (intro wS hSw; (try dsimp only at hSw); go_simp; try with_reducible rfl)
                  simp only [Act.put]
                  refine anyT_last rfl (by kernel_rfl) (by kernel_rfl) (fun K hK => ?_)
                  try dsimp only at hHeld
                  go_simp
                  refine hK.out _ _ ?_
                  clear hK K hHeld
                  have hset2 := (HR1.out.next hb92).set q (c := c92) (ho92.rw (g0 := g) (by have := ho92.base; omega))
                  have hwv2 := (HW1.out.trans (hb92.mono HW1.out.size)).setCell (p := ⟨g, q, none⟩) HGL.out (.slice (some ⟨g92, 0, none⟩) (sub4 lp2 (mull sh lq2)).length c92)
                  have hrw2 : Rw (w92.setCell ⟨g, q, none⟩ (.slice (some ⟨g92, 0, none⟩) (sub4 lp2 (mull sh lq2)).length c92)) g (some ⟨g5, 0, none⟩) sh := (RW1.out.next hb92).grow (grownBy_set _ _ _ _) (.inl rfl)
                  have lb2 : wr.heap.size < (w92.setCell ⟨g, q, none⟩ (.slice (some ⟨g92, 0, none⟩) (sub4 lp2 (mull sh lq2)).length c92)).heap.size := by have := hb92.size; simp; omega
                  have HR2 : Hid (Rws (w92.setCell ⟨g, q, none⟩ (.slice (some ⟨g92, 0, none⟩) (sub4 lp2 (mull sh lq2)).length c92)) w.heap.size g cap (rSub adj2 q (mull sh lq2))) := by show Rws _ _ _ _ _; unfold rSub; rw [← HLP2.out]; exact hset2
                  have HW2 := Lib.hid hwv2
                  have RW2 := Lib.hid hrw2
                  generalize w92.setCell ⟨g, q, none⟩ (.slice (some ⟨g92, 0, none⟩) (sub4 lp2 (mull sh lq2)).length c92) = V2 at *
                  clear hset2 hwv2 hrw2 fp2 ff2
                  go_wp2_with fail
                  go_roundw
                  case rel => exact ⟨k, _, by omega, by first | go_num | (simp; done) | omega, HSP, HSL, HSO, HR2.out, HW2.out⟩
                  case measure => simp [intOf] <;> omega
              · obtain ⟨p, rfl⟩ : ∃ q : Nat, a4 = (q : Int) := ⟨a4.toNat, by omega⟩
                have hpk : p < k := by omega
                have hpi : (p : Int) < ((seedS t ws n 0).length : Int) := by have := HL0.out; omega
                have adjL := HL
                have adjO := HO
                ·
                  have HS : Hid (sprS ⟨7, (p : Int), b4, m4⟩ k rs adj = rSub adj p li) := by show _ = _; unfold sprS; rw [HLI.out]; simp only [Int.toNat_natCast]; simp
                  rw [HS.out] at HSP HSL HSO
                  go_wp2_with fail
                  try rw [← hWX]
                  clear hWX c0 c1 c2 c3 f0 f1 f2 f3 fi
                  obtain ⟨ap2, cp2, fp2, hrp2⟩ := HOX.out.get (i := p) (by have := adjL.out; omega)
                  have ff2 := HOX.out.frz p
                  have hpk2 := adjO.out p (by have := adjL.out; omega)
                  have LP2 := Lib.hid hpk2.1
                  have NP2 := Lib.hid hpk2.2
                  have AP2 := Lib.hid hrp2
                  have lg2 : g < WX.heap.size := HOX.out.base.2
                  clear hpk2 hrp2
                  obtain ⟨lp2, hlp2⟩ : ∃ lp, lp = adj.getD p [] := ⟨_, rfl⟩
                  rw [← hlp2] at fp2 LP2 NP2 AP2
                  have HLP2 := Lib.hid hlp2
                  clear hlp2
                  have hlp132 : lp2.length ≤ 13 := by rw [LP2.out]; exact hn2
                  have hlv132 : li.length ≤ 13 := by rw [LI.out]; exact hn2
                  refine region_TQ 11 (fun w' => w'.cell? ⟨wr.heap.size, 1, none⟩ = some (.int .i64 (p : Int)) ∧ w'.cell? ⟨g, p, none⟩ = some (.slice ap2 lp2.length cp2) ∧ w'.frozen? ⟨g, p, none⟩ = false) (by kernel_rfl) (⟨xc1, fp2, ff2⟩) (fun _ _ d _ _ h => by cases d <;> exact h) (fun HQ hHeld => ?_)
                  refine anyT_take (i := 0) (v := ?vT0_9) rfl (by kernel_rfl) (fun c a w h => HQ.out c a _ _ w h) (Or.inl ⟨by rfl, ?hT0_9⟩) hHeld ?rT0_9
                  case hT0_9 => (intro wS hSw; (try dsimp only at hSw); go_simp; try with_reducible rfl)
                  simp only [Act.put]
                  refine anyT_take (i := 1) (v := ?vT1_9) rfl (by kernel_rfl) (fun c a w h => HQ.out c a _ _ w h) (Or.inl ⟨by rfl, ?hT1_9⟩) hHeld ?rT1_9
                  case hT1_9 => (intro wS hSw; (try dsimp only at hSw); go_simp; try with_reducible rfl)
                  simp only [Act.put]
                  refine anyT_take (i := 2) (v := ?vT2_9) rfl (by kernel_rfl) (fun c a w h => HQ.out c a _ _ w h) (Or.inl ⟨by rfl, ?hT2_9⟩) hHeld ?rT2_9
                  case hT2_9 => (intro wS hSw; (try dsimp only at hSw); go_simp; try with_reducible rfl)
                  simp only [Act.put]
                  refine anyT_take (i := 3) (v := ?vT3_9) rfl (by kernel_rfl) (fun c a w h => HQ.out c a _ _ w h) (Or.inl ⟨by rfl, ?hT3_9⟩) hHeld ?rT3_9
                  case hT3_9 => (intro wS hSw; (try dsimp only at hSw); go_simp; try with_reducible rfl)
                  simp only [Act.put]
                  refine anyT_take (i := 4) (v := ?vT4_9) rfl (by kernel_rfl) (fun c a w h => HQ.out c a _ _ w h) (Or.inl ⟨by rfl, ?hT4_9⟩) hHeld ?rT4_9
                  case hT4_9 => (intro wS hSw; (try dsimp only at hSw); go_simp; try with_reducible rfl)
                  simp only [Act.put]
                  refine anyT_take (i := 5) (v := ?vT5_9) rfl (by kernel_rfl) (fun c a w h => HQ.out c a _ _ w h) (Or.inl ⟨by rfl, ?hT5_9⟩) hHeld ?rT5_9
                  case hT5_9 => (intro wS hSw; (try dsimp only at hSw); go_simp; try with_reducible rfl)
                  simp only [Act.put]
                  refine anyT_take (i := 6) (v := ?vT6_9) rfl (by kernel_rfl) (fun c a w h => HQ.out c a _ _ w h) (Or.inl ⟨by rfl, ?hT6_9⟩) hHeld ?rT6_9
                  case hT6_9 => (intro wS hSw; (try dsimp only at hSw); go_simp; try with_reducible rfl)
                  simp only [Act.put]
                  refine anyT_take (i := 7) (v := ?vT7_9) rfl (by kernel_rfl) (fun c a w h => HQ.out c a _ _ w h) (Or.inl ⟨by rfl, ?hT7_9⟩) hHeld ?rT7_9
                  case hT7_9 => (intro wS hSw; (try dsimp only at hSw); go_simp; try with_reducible rfl)
                  simp only [Act.put]
                  refine anyT_take (i := 8) (v := ?vT8_9) rfl (by kernel_rfl) (fun c a w h => HQ.out c a _ _ w h) (Or.inl ⟨by rfl, ?hT8_9⟩) hHeld ?rT8_9
                  case hT8_9 => (intro wS hSw; (try dsimp only at hSw); go_simp; try with_reducible rfl)
                  simp only [Act.put]
                  refine anyT_step (i := 9) rfl (by kernel_rfl) (fun K hK => ?_)
                  clear hHeld
                  go_simp
                  refine (sSub4 _ _ _ _ lp2 li _ (AP2.out.at.below (tbdrew (Below.refl _ _)) (Nat.le_refl _)) (HIX.out.at.below (tbdrew (Below.refl _ _)) (Nat.le_refl _)) NP2.out NI.out (by show _ = _; rw [LI.out, LP2.out]) (by omega)).mono ?_; rintro e w92 ⟨g92, c92, rfl, ho92, hb92'⟩
                  have hb92 : Below WX.heap.size WX w92 := ⟨hb92'.os, hb92'.tape, hb92'.output, hb92'.size, hb92'.block⟩
                  have h82 : WX.heap.size ≤ WX.drew.heap.size := Nat.le_refl _
                  go_wp2_with fail
                  refine hK.out _ _ (⟨(hb92.cell (p := ⟨wr.heap.size, 1, none⟩) lbX).trans xc1, (hb92.cell (p := ⟨g, p, none⟩) lg2).trans fp2, (hb92.frozen (p := ⟨g, p, none⟩) lg2).trans ff2⟩) (fun hHeld => ?_)
                  clear hK K
                  try simp only [Act.put]
                  refine anyT_take (i := 10) (v := ?vT10_9) rfl (by kernel_rfl) (fun c a w h => HQ.out c a _ _ w h) (Or.inl ⟨by rfl, ?hT10_9⟩) hHeld ?rT10_9
                  case hT10_9 => (intro wS hSw; (try dsimp only at hSw); go_simp; try with_reducible rfl)
                  simp only [Act.put]
                  refine anyT_last rfl (by kernel_rfl) (by kernel_rfl) (fun K hK => ?_)
                  try dsimp only at hHeld
                  go_simp
                  refine hK.out _ _ ?_
                  clear hK K hHeld
                  have hset2 := (HOX.out.next hb92).set p (c := c92) (ho92.rw (g0 := g) (by have := ho92.base; omega))
                  have hwv2 := (HWX.out.trans (hb92.mono HWX.out.size)).setCell (p := ⟨g, p, none⟩) HGL.out (.slice (some ⟨g92, 0, none⟩) (sub4 lp2 li).length c92)
                  have hrw2 : Rw (w92.setCell ⟨g, p, none⟩ (.slice (some ⟨g92, 0, none⟩) (sub4 lp2 li).length c92)) g ai li := (HIX.out.next hb92).grow (grownBy_set _ _ _ _) (.inl rfl)
                  have lb2 : wr.heap.size < (w92.setCell ⟨g, p, none⟩ (.slice (some ⟨g92, 0, none⟩) (sub4 lp2 li).length c92)).heap.size := by have := hb92.size; simp; omega
                  have HR2 : Hid (Rws (w92.setCell ⟨g, p, none⟩ (.slice (some ⟨g92, 0, none⟩) (sub4 lp2 li).length c92)) w.heap.size g cap (rSub adj p li)) := by show Rws _ _ _ _ _; unfold rSub; rw [← HLP2.out]; exact hset2
                  have HW2 := Lib.hid hwv2
                  have RW2 := Lib.hid hrw2
                  generalize w92.setCell ⟨g, p, none⟩ (.slice (some ⟨g92, 0, none⟩) (sub4 lp2 li).length c92) = V2 at *
                  clear hset2 hwv2 hrw2 fp2 ff2
                  go_wp2_with fail
                  go_roundw
                  case rel => exact ⟨k, _, by omega, by first | go_num | (simp; done) | omega, HSP, HSL, HSO, HR2.out, HW2.out⟩
                  case measure => simp [intOf] <;> omega

end Go.Proofs.Ytggojffmfjeikaa
