/- How often steps are advanced over, by the model. -/
import Derived.Test.YtolpbflalbfhjaaCkg
namespace Go.Proofs.Ytolpbflalbfhjaa
open Go.RowKit
set_option linter.unusedVariables false

theorem allB_pos {n m : Nat} {l : List Ac} {k : Nat} {s : Cs} (ha : allB (cs0 n m) l = true) (h : Far (cs0 n m) l k s) (hk : k < l.length) : posB s (l.getD k noAc) = true := by
  cases hp : posB s (l.getD k noAc) with
  | true => rfl
  | false =>
    have := h.stop hk hp
    unfold allB at ha
    rw [this, Bool.and_eq_true] at ha
    have := of_decide_eq_true ha.1
    have : k = l.length := this
    omega
theorem advA_1 {s : Cs} {x : Int} {adv : List Int} : advA s ⟨1, x⟩ adv = advT adv s.cur.toNat x.toNat := rfl
theorem advA_n {s : Cs} {x : Ac} {adv : List Int} (h : x.kind ≠ 1) : advA s x adv = adv := if_neg h

set_option maxRecDepth 100000 in
set_option maxHeartbeats 6400000 in
theorem sAdvances_0 (n m : Nat) (hn : n ≤ 40) (hm : m ≤ 8) (l : List Ac) (hl : schB l = true) (hall : allB (cs0 n m) l = true) (a : Option Addr) (cap : Nat) (w : World) (hP : AcAt w 0 w.heap.size l a) (hs : l.length ≤ 1048576)
    (hask : askC l n m = 0) :
    Calls Try.prog 32 #[.slice a l.length cap, .int .i64 n, .int .i64 m] w (Rs2 w (goA (cs0 n m) (List.replicate n 0) l) 0) := by
  obtain ⟨i0, hi, hz0, hz1, hz2⟩ := info_parts info64
  have HA := Lib.hid (sAsked l a cap n m w hP hs)
  rw [hask] at HA
  have HB := fun (W : World) (hP : AcAt W 0 W.heap.size l a) => Lib.hid (sBad n m hn hm l hl a cap W hP)
  unfold BadP at HB
  rw [hall] at HB
  have hll := (schB_t hl).1
  generalize hk : (goS (cs0 n m) l).1 = kk at HB
  have HALL := Lib.hid hall
  have HAC := Lib.hid (fun i hi => schB_ac hl i hi)
  clear hask hk hl hall
  go_enter Try.func32, Try.ntmps32
  go_wp2_with fail
  refine HA.out.mono ?_; rintro e w1 ⟨rfl, hb1⟩
  have HB2 := HB w1 (hP.next hb1)
  clear HB HA
  go_wp2_with fail
  refine HB2.out.mono ?_; rintro e w2 ⟨rfl, hb2⟩
  have hw2 := hb1.trans (hb2.mono hb1.size)
  clear HB2 hb1 hb2
  go_wp2_with (refine wpList_make_full _ rfl _ _ 22 rfl w2.heap.size 2 i0 (.int .i64 0) 1 Try.underlying22 hi hz0 hz1 .i64 .i64 _ _ n rfl rfl rfl rfl ?c2 ?c3 (Nat.le_refl _) ?_)
  case c2 => rw [hz2]; omega
  case c3 => unfold maxLen; omega
  intro w3 ho3 hg3
  have O3 : Own w2.heap.size w3 w2.heap.size n (List.replicate n 0) := by have := made_own ho3; rw [fillz_zero] at this; exact this
  have hb3 : Below w2.heap.size w2 w3 := (Below.refl _ _).grown hg3 (Nat.le_refl _) (by intro k hk; cases hk)
  have hw3 := hw2.trans (hb3.mono hw2.size)
  have ho3s := O3.base.2
  clear ho3 hg3 hi hz0 hz1 hz2
  go_wp2_with fail
  refine (sBegin n m hm w3).mono ?_; rintro e w4 ⟨B, ar, cr, rfl, HR, hb4⟩
  have hw4 := hw3.trans (hb4.mono hw3.size)
  have HR0 := Lib.hid HR
  have O4 := Lib.hid (OwnA.below O3.a hb4)
  have HO0 : Hid (Own w2.heap.size w4 w2.heap.size n (List.replicate n 0)) := O3.kept hb4 ho3s
  have hlt2 : w2.heap.size < w3.heap.size := ho3s
  have hsz2 := hw2.size
  clear HR O3 O4
  go_wp2_with fail
  go_loopw [13] (fun q wr => ∃ (i : Nat) (s : Cs) (adv : List Int), i ≤ l.length ∧ q = .int .i64 i ∧ Hid (Fin n m l i s adv) ∧ Hid (RunAt wr w3.heap.size B s ar cr) ∧ Hid (Own w2.heap.size wr w2.heap.size n adv) ∧ Below w.heap.size w wr) (fun q _ => l.length - (intOf q).toNat)
  case atStart => exact ⟨0, cs0 n m, List.replicate n 0, Nat.zero_le _, rfl, fin0 n m l, HR0.out, HO0.out, hw4⟩
  case round =>
    obtain ⟨i, s, adv, hi, rfl, HF, HR, HO, hw⟩ := hrel
    clear HR0 HO0 hw4 hb4 hw3 hb3
    have hsz := hw.size
    by_cases hlt : i < l.length
    · have hii : (i : Int) < (l.length : Int) := by omega
      obtain ⟨b, off, rfl, hbB, hall⟩ := ((hP.below hw).resolve_left (by intro e; rw [e] at hlt; simp at hlt))
      obtain ⟨hr, c0, c1⟩ := hall i hlt
      have hac := HAC.out i hlt
      have hp := allB_pos HALL.out HF.out.far hlt
      have b0 : 0 ≤ s.cur ∧ s.cur ≤ 40 := ⟨HF.out.iv.c0, by have := HF.out.iv.c1; omega⟩
      have HAct := fun (W : World) (hR : RunAt W w3.heap.size B s ar cr) => Lib.hid (sAct s (l.getD i noAc) hac hp b0 w3.heap.size B ar cr W hR)
      have HN := Lib.hid (HF.out.step hlt hac hp)
      have hlo := Lib.hid HR.out.lo
      have HBB := Lib.hid hbB.2
      clear hall hr
      by_cases hk1 : (l.getD i noAc).kind = 1
      · generalize hx : l.getD i noAc = x at *
        obtain ⟨k, y⟩ := x
        have hk1 : k = 1 := hk1
        subst hk1
        have hy := inB_t (by rw [acB_1] at hac; exact hac)
        rw [posB_1] at hp
        have hpl := of_decide_eq_true hp
        have hl1 := HF.out.iv.l1
        obtain ⟨c, hc⟩ : ∃ c : Nat, s.cur = c := ⟨s.cur.toNat, by omega⟩
        obtain ⟨y, rfl⟩ : ∃ z : Nat, y = z := ⟨y.toNat, by omega⟩
        have hcy : c + y < n := by omega
        have HAd : Hid (advA s ⟨1, y⟩ adv = advT adv c y) := by show _ = _; rw [advA_1, hc]; rfl
        rw [HAd.out] at HN
        have hbd := Lib.hid HF.out.bd
        have hln := Lib.hid HF.out.len
        obtain ⟨r0, _, _, _, rlt, _, _⟩ := HR.out
        have hrl := rlt.2
        rw [hc] at r0
        clear hac hp hx HF rlt hl1 HAd
        have hBn : B ≠ w2.heap.size := by have := hlo.out B (.inl rfl); omega
        have hbn : b ≠ w2.heap.size := by have := HBB.out; omega
        have HOI0 : Hid (Own w2.heap.size wr w2.heap.size n (advT adv c 0)) := HO
        clear HO
        obtain ⟨wo, hwo⟩ : ∃ wo : World, wo = wr := ⟨_, rfl⟩
        have HK0 : Hid (Kp (fun k => k = w2.heap.size) wo wo) := Kp.refl _ _
        go_wp2_with fail
        rw [← hwo] at c0 c1 r0 HR HOI0 hw hsz hrl ⊢
        clear hwo
        go_loopw [14] (fun q wi => ∃ j : Nat, j ≤ y ∧ q = .int .i64 ((c + j : Nat) : Int) ∧ Hid (Own w2.heap.size wi w2.heap.size n (advT adv c j)) ∧ Hid (Kp (fun k => k = w2.heap.size) wo wi)) (fun q _ => c + y - (intOf q).toNat)
        case atStart => exact ⟨0, Nat.zero_le _, rfl, HOI0.out, HK0.out⟩
        case round =>
          obtain ⟨j, hj, rfl, HOI, HK⟩ := hrel
          have c0i := HK.out.cell c0 hbn
          have c1i := HK.out.cell c1 hbn
          have r0i := HK.out.cell r0 hBn
          have e1 : IntKind.i64.wrap ((c : Int) + (y : Int)) = (c : Int) + (y : Int) := IntWalk.i64_in _ (by omega)
          clear HOI0 HK0
          by_cases hjl : j < y
          · have hjy : ((c + j : Nat) : Int) < (c : Int) + (y : Int) := by omega
            have hjl2 : c + j < (advT adv c j).length := by rw [advT_len, hln.out]; omega
            have hv := HOI.out.cellAt (c + j) hjl2
            have hvf := HOI.out.frz (c + j)
            have hvs := HOI.out.base.2
            have hb2 : 0 ≤ (advT adv c j).getD (c + j) 0 ∧ (advT adv c j).getD (c + j) 0 ≤ 400 := by
              rw [advT_at, if_neg (by omega)]; have := hbd.out (c + j); omega
            have HOn : Hid (Own w2.heap.size (wr.setCell ⟨w2.heap.size, c + j, none⟩ (.int .i64 ((advT adv c j).getD (c + j) 0 + 1))) w2.heap.size n (advT adv c (j + 1))) := HOI.out.set (c + j) ((advT adv c j).getD (c + j) 0 + 1)
            have HKn : Hid (Kp (fun k => k = w2.heap.size) wo (wr.setCell ⟨w2.heap.size, c + j, none⟩ (.int .i64 ((advT adv c j).getD (c + j) 0 + 1)))) := HK.out.trans (Kp.set (S := fun k => k = w2.heap.size) (p := ⟨w2.heap.size, c + j, none⟩) rfl)
            have hq1 : ((c + j : Nat) : Int) < (n : Int) := by omega
            clear HOI HK hjl2
            generalize (advT adv c j).getD (c + j) 0 = v at *
            have hz1 := (show 0 ≤ ((c + j : Nat) : Int) by omega)
            have hz2 := (show ((c + j : Nat) : Int) ≤ 80 by omega)
            have HJ : Hid (((c + j : Nat) : Int) + 1 = ((c + (j + 1) : Nat) : Int)) := by show _ = _; omega
            generalize hcj : c + j = p at *
            have HCJ := Lib.hid hcj
            clear hcj
            go_wp2_with fail
            go_quiet (fail)
            go_wp2_with fail
            go_roundw
            case rel => exact ⟨j + 1, by omega, by rw [HJ.out], HOn.out.keep (S := fun _ => False) (Kp.of_below (below_drewN (Below.refl _ _) _)) id, HKn.out.trans (Kp.of_below (below_drewN (Below.refl _ _) _))⟩
            case measure => have := HCJ.out; simp [intOf]; omega
          · have hjy : ¬ ((c + j : Nat) : Int) < (c : Int) + (y : Int) := by omega
            have HJ : Hid (j = y) := by show _ = _; omega
            have HR2 := Lib.hid (HR.out.keep HK.out (fun k hk hh => by have := hlo.out k hk; omega))
            have HA2 := fun n => HAct (wr.drewN n) (HR2.out.next (below_drewN (Below.refl _ _) _))
            have hw5 : Below w.heap.size w wr := hw.trans (HK.out.below (by omega) (fun k hk => by omega))
            have HO5 : Hid (Own w2.heap.size wr w2.heap.size n (advT adv c y)) := by have := HOI.out; rw [HJ.out] at this; exact this
            clear HOI HK HR HR2 HAct HJ
            generalize hcj : ((c + j : Nat) : Int) = p at hjy
            have HCJ := Lib.hid hcj
            clear hcj
            go_wp2_with fail
            go_quiet (fail)
            rename_i nq
            have HA3 := HA2 nq
            have hw6 := hw5.trans (below_drewN (Below.refl w.heap.size wr) nq)
            clear HA2
            go_wp2_with fail
            refine HA3.out.mono ?_; rintro e w7 ⟨rfl, HR7, hk7⟩
            have HR8 := Lib.hid HR7
            have HO7 : Hid (Own w2.heap.size w7 w2.heap.size n (advT adv c y)) := (HO5.out.keep (S := fun _ => False) (Kp.of_below (below_drewN (Below.refl _ _) _)) id).keep hk7 (fun hh => by have := hlo.out _ hh; omega)
            have hw7 := hw6.trans (hk7.below (by have := hw6.size; omega) (fun k hk => by have := hlo.out k hk; omega))
            clear HA3 HR7 hk7 HO5 hw5 hw6 c0i c1i r0i
            go_wp2_with fail
            go_roundw
            case rel => exact ⟨i + 1, _, _, by omega, by go_num, HN.out, HR8.out, HO7.out, hw7⟩
            case measure => simp [intOf]; omega
      · have HAd : Hid (advA s (l.getD i noAc) adv = adv) := advA_n hk1
        rw [HAd.out] at HN
        have HA2 := HAct wr HR.out
        have hkb : ((l.getD i noAc).kind == 1) = false := by simpa using hk1
        clear HAct HR hac hp HF HAd hk1
        generalize l.getD i noAc = x at *
        go_wp2_with fail
        refine HA2.out.mono ?_; rintro e w7 ⟨rfl, HR7, hk7⟩
        have HR8 := Lib.hid HR7
        have HO7 : Hid (Own w2.heap.size w7 w2.heap.size n adv) := HO.out.keep hk7 (fun hh => by have := hlo.out _ hh; omega)
        have hw7 := hw.trans (hk7.below (by omega) (fun k hk => by have := hlo.out k hk; omega))
        clear HA2 HR7 hk7 HO c0 c1
        go_wp2_with fail
        go_roundw
        case rel => exact ⟨i + 1, _, _, by omega, by go_num, HN.out, HR8.out, HO7.out, hw7⟩
        case measure => simp [intOf]; omega
    · have hii : ¬ (i : Int) < (l.length : Int) := by omega
      have HG : Hid (goA (cs0 n m) (List.replicate n 0) l = adv) := HF.out.farA.full (by omega)
      have hln := Lib.hid HF.out.len
      clear HF HR hP
      go_wp2_with fail
      go_ret2
      exact ⟨_, _, ret_s2 (by rw [HG.out, hln.out]) rfl, by rw [HG.out]; exact (HO.out.mono (by omega)).a, hw⟩


set_option maxHeartbeats 1600000 in
theorem sAdvancesOf (l : List Ac) (a : Option Addr) (cap : Nat) (n s : Int) (w : World) (hP : AcAt w 0 w.heap.size l a) (hs : l.length ≤ 1048576)
    (h0 : -9223372036854775808 ≤ n ∧ n ≤ 9223372036854775807) (h1 : -9223372036854775808 ≤ s ∧ s ≤ 9223372036854775807) :
    Calls Try.prog 32 #[.slice a l.length cap, .int .i64 n, .int .i64 s] w (Rs2 w (RAdvancesOf l n s) (CAdvancesOf l n s)) := by
  by_cases hc : askC l n s = 0
  · obtain ⟨hsch, b1, b2⟩ := askC_0 hc
    obtain ⟨s, rfl⟩ : ∃ m : Nat, s = m := ⟨s.toNat, by omega⟩
    obtain ⟨n, rfl⟩ : ∃ m : Nat, n = m := ⟨n.toNat, by omega⟩
    cases hz : allB (cs0 n s) l with
    | true =>
      have HF : RAdvancesOf l n s = goA (cs0 n s) (List.replicate n 0) l ∧ CAdvancesOf l n s = 0 := by
        constructor <;> simp [RAdvancesOf, CAdvancesOf, hc, hz]
      rw [HF.1, HF.2]
      exact sAdvances_0 n s (by omega) (by omega) l hsch hz a cap w hP hs hc
    | false =>
      have HF : Hid (RAdvancesOf l n s = [] ∧ CAdvancesOf l n s = 4) := by
        constructor <;> simp [RAdvancesOf, CAdvancesOf, hc, hz]
      have HA := Lib.hid (sAsked l a cap n s w hP hs)
      rw [hc] at HA
      have HB := fun (W : World) (hP : AcAt W 0 W.heap.size l a) => Lib.hid (sBad n s (by omega) (by omega) l hsch a cap W hP)
      unfold BadP at HB
      rw [hz] at HB
      generalize hk : (goS (cs0 n s) l).1 = kk at HB
      clear hz hc hsch b1 b2 hk
      go_enter Try.func32, Try.ntmps32
      go_wp2_with fail
      refine HA.out.mono ?_; rintro e w1 ⟨rfl, hb1⟩
      have HB2 := HB w1 (hP.next hb1)
      clear HB HA
      go_wp2_with fail
      refine HB2.out.mono ?_; rintro e w2 ⟨rfl, hb2⟩
      have hw2 := hb1.trans (hb2.mono hb1.size)
      go_wp2_with fail
      go_ret2
      exact ⟨_, _, ret_s2 (by rw [HF.out.1]; rfl) HF.out.2.symm, .inl HF.out.1, hw2.alloc hw2.size _⟩
  · have HF : Hid (RAdvancesOf l n s = [] ∧ CAdvancesOf l n s = askC l n s) := by constructor <;> simp [RAdvancesOf, CAdvancesOf, hc]
    have HA := Lib.hid (sAsked l a cap n s w hP hs)
    have hne : (askC l n s != 0) = true := by simp [hc]
    clear hc
    generalize askC l n s = c at *
    go_enter Try.func32, Try.ntmps32
    go_wp2_with fail
    refine HA.out.mono ?_; rintro e w1 ⟨rfl, hb⟩
    go_wp2_with fail
    go_ret2
    exact ⟨_, _, ret_s2 (by rw [HF.out.1]; rfl) HF.out.2.symm, .inl HF.out.1, hb.alloc hb.size _⟩

end Go.Proofs.Ytolpbflalbfhjaa
