/- Tapes: which ones are valid by the program, whole. -/
import Derived.Test.YtiimebiecihpkaaTai
import Derived.Deep.RegionHeld3
namespace Go.Proofs.Ytiimebiecihpkaa
open Go.RowKit
set_option linter.unusedVariables false

theorem ta_snoc {B : Nat} {w : World} {v : Value} {t : List Int} {n : Int} (h : w.ownsRow B 2 1 v (t.length + 1) (t.map (Value.int .i64) ++ [Value.int .i64 n])) : w.ownsRow B 2 1 v (t ++ [n]).length ((t ++ [n]).map (Value.int .i64)) := by
  rw [List.length_append, List.map_append, List.length_singleton]; exact h

theorem heap_at2 (w : World) (o1 o2 : Obj) : ((w.alloc o1).alloc o2).heap[w.heap.size + 1]? = ((w.alloc o1).alloc o2).heap[(w.alloc o1).heap.size]? := by simp
/-- the registers that the guards and the outputs read -/
def dirl (t : Tp) : List Int := t.outs ++ t.guards.map (·.reg)
theorem dirl_len (t : Tp) : (dirl t).length = t.outs.length + t.guards.length := by simp [dirl]
theorem take_gd {l : List Gd} {i : Nat} (h : i < l.length) : (l.take i).map (·.reg) ++ [(l.getD i noG).reg] = (l.take (i + 1)).map (·.reg) := by
  rw [List.take_add_one, List.map_append, List.getD_eq_getElem?_getD, List.getElem?_eq_getElem h]; rfl
def ixAll (l : List Int) (n : Int) : Bool := l.all fun x => ixB x n

set_option maxRecDepth 100000 in
set_option maxHeartbeats 3200000 in
theorem iReads (t : Tp) (ac : Option Addr) (cc : Nat) (ag : Option Addr) (cg : Nat) (ao : Option Addr) (co : Nat) (w : World) (hP : Tat w 0 w.heap.size t ac ag ao) (h1 : 1 ≤ t.outs.length) (h2 : t.outs.length ≤ 12) (h3 : t.guards.length ≤ 3200) :
    Calls Try.prog 189 #[tpv t ac cc ag cg ao co] w fun e w' => ∃ g cap, e = .returned (.slice (some ⟨g, 0, none⟩) (dirl t).length cap) ∧ Own w.heap.size w' g cap (dirl t) ∧ Below w.heap.size w w' := by
  unfold tpv
  obtain ⟨i0, hi, hz0, hz1, hz2⟩ := info_parts info64
  obtain ⟨w0, hw0⟩ : ∃ w0, w0 = w.alloc (.cells #[.int .i64 t.inputs, .slice ac t.code.length cc, .slice ag t.guards.length cg, .slice ao t.outs.length co] 85) := ⟨_, rfl⟩
  have A0 : Below w.heap.size w w0 := by rw [hw0]; exact (Below.refl _ _).alloc (Nat.le_refl _) _
  have z0 : w0.heap.size = w.heap.size + 1 := by rw [hw0]; simp
  have p2 : w0.cell? ⟨w.heap.size, 2, none⟩ = some (.slice ag t.guards.length cg) := by rw [hw0]; simp [go_sem]
  have p3 : w0.cell? ⟨w.heap.size, 3, none⟩ = some (.slice ao t.outs.length co) := by rw [hw0]; simp [go_sem]
  have HG := Lib.hid (hP.guards)
  go_enter Try.func189, Try.ntmps189
  go_wp2_with fail
  rw [← hw0]
  clear hw0
  refine (iClone ao co t.outs w0 ((hP.outs.below A0).mono (Nat.le_refl _) A0.size |>.at (Nat.le_refl _)) h1 (by omega)).mono ?_; rintro e w1 ⟨g1, c1, rfl, o1, b1⟩
  have A1 := A0.trans (b1.mono A0.size)
  have q2 := (b1.cell (p := ⟨w.heap.size, 2, none⟩) (by show w.heap.size < _; omega)).trans p2
  clear p2 p3
  go_wp2_with fail
  have o1' : w1.ownsRow w.heap.size 2 1 (.slice (some ⟨g1, 0, none⟩) t.outs.length c1) (t.outs ++ (t.guards.take 0).map (·.reg)).length ((t.outs ++ (t.guards.take 0).map (·.reg)).map (Value.int .i64)) := by
    have := o1.mono A0.size
    unfold Own at this
    simpa using this
  clear o1
  have hlen : ∀ i, i ≤ t.guards.length → (t.outs ++ (t.guards.take i).map (·.reg)).length = t.outs.length + i := fun i hi => by simp; omega
  have H0 : Hid ((dirl t) = t.outs ++ (t.guards.take t.guards.length).map (·.reg)) := by show _ = _; rw [List.take_length]; rfl
  go_loopw [3, 12] (fun v q wr => ∃ (i : Nat) (xs : List Int), i ≤ t.guards.length ∧ q = .int .i64 i ∧ Hid (xs.length = t.outs.length + i) ∧ Hid (xs = t.outs ++ (t.guards.take i).map (·.reg)) ∧ wr.ownsRow w.heap.size 2 1 v xs.length (xs.map (Value.int .i64)) ∧ (∃ g cap, v = .slice (some ⟨g, 0, none⟩) xs.length cap) ∧ Below w.heap.size w wr) (fun _ q _ => t.guards.length - (intOf q).toNat)
  case atStart => exact ⟨0, _, Nat.zero_le _, rfl, by show _ = _; simp, rfl, o1', ⟨g1, c1, by simp⟩, A1⟩
  case round =>
    obtain ⟨i, xs, hi0, rfl, HL, HX, ho, ⟨g, cap, rfl⟩, hw⟩ := hrel
    have hxl : xs.length ≤ 3212 := by have := HL.out; omega
    clear o1' A1 q2 b1 hP
    by_cases hlt : i < t.guards.length
    · have hii : (i : Int) < (t.guards.length : Int) := by omega
      obtain ⟨bg, og, rfl, hbB, hall⟩ := ((HG.out.below hw).resolve_left (by intro e; rw [e] at hlt; simp at hlt))
      obtain ⟨hr, f0, f1⟩ := hall i hlt
      have HX2 : Hid (xs ++ [(t.guards.getD i noG).reg] = t.outs ++ (t.guards.take (i + 1)).map (·.reg)) := by show _ = _; rw [HX.out, List.append_assoc, take_gd hlt]
      have hz := hw.size
      have hob := Lib.hid (fun k hk => (World.ownsRow.lt ho k hk).1)
      clear hall HX hr HG
      generalize t.guards.getD i noG = f at f0 f1 HX2
      go_wp2_with (at_builtin; refine wpList_append_lies _ rfl _ _ _ rfl w.heap.size 2 i0 _ 1 8 Try.underlying23 hi hz0 hz1 hz2 rfl (by omega) (.slice (some ⟨g, 0, none⟩) xs.length cap) xs.length (xs.map (Value.int .i64)) rfl ((ho.alloc _).alloc _) ⟨wr.heap.size + 1, 0, none⟩ 1 1 [.int .i64 f.reg] rfl rfl (World.news_of_block (cs := #[.int .i64 f.reg]) (t := 2) (fr := (0, 0)) ((heap_at2 wr _ _).trans (heap_alloc_new _ _))) (by simp [Value.oneCell']) (by omega) (by unfold maxLen; omega) (by omega) (by simp; omega) (wr.heap.size + 1 + 1) (by simp) ?_; intro gg cc w1 hown1 hgrow hat hlt1)
      have hw2 := ((hw.alloc hz (.cells #[.int .i64 f.reg, .bool f.zero] 226)).alloc (by simp; omega) (.cells #[.int .i64 f.reg] 2)).grown hgrow (by simp; omega) hob.out
      have ho3 := ta_snoc hown1
      go_roundw
      case rel => exact ⟨i + 1, _, by omega, by go_num, by show _ = _; have := HL.out; simp; omega, HX2, ho3, ⟨gg, cc, by simp⟩, hw2⟩
      case measure => simp [intOf]; omega
    · have hii : ¬ (i : Int) < (t.guards.length : Int) := by omega
      have hki : i = t.guards.length := by omega
      subst hki
      have hx : xs = dirl t := by rw [HX.out, H0.out]
      subst hx
      have HO := Lib.hid ho
      clear HX ho HG HL hxl
      go_wp2_with fail
      go_ret
      exact ⟨g, cap, rfl, HO.out, hw⟩

set_option maxRecDepth 100000 in
set_option maxHeartbeats 3200000 in
theorem iIndexLacks (t : Tp) (ac : Option Addr) (cc : Nat) (ag : Option Addr) (cg : Nat) (ao : Option Addr) (co : Nat) (a : Option Addr) (cap : Nat) (l : List Int) (w : World) (hA : At w a l) (hl : l.length ≤ 1048576) :
    Calls Try.prog 216 #[.slice a l.length cap, .func (Fn.func 130) #[tpv t ac cc ag cg ao co] #[]] w fun e w' => ∃ r : Int, e = .returned (.int .i64 r) ∧ decide (0 ≤ r) = !ixAll l t.code.length ∧ -1 ≤ r ∧ r ≤ 1048576 ∧ Below w.heap.size w w' := by
  go_enter Try.func216, Try.ntmps216
  go_wp2_with fail
  go_loopw [8] (fun q wr => ∃ i : Nat, i ≤ l.length ∧ q = .int .i64 i ∧ Hid (∀ j, j < i → ixB (l.getD j 0) t.code.length = true) ∧ Below w.heap.size w wr) (fun q _ => l.length - (intOf q).toNat)
  case atStart => exact ⟨0, Nat.zero_le _, rfl, (fun t ht => by omega), Below.refl _ _⟩
  case round =>
    obtain ⟨i, hi, rfl, HX, hw⟩ := hrel
    by_cases hlt : i < l.length
    · have hii : (i : Int) < (l.length : Int) := by omega
      obtain ⟨bf, of, rfl, hbB, hall⟩ := ((hA.below hw (Nat.le_refl _)).resolve_left (by intro e; rw [e] at hlt; simp at hlt))
      have f0 := hall i hlt
      have HC := fun (W : World) => Lib.hid (iLacks t ac cc ag cg ao co (l.getD i 0) W)
      cases hb : ixB (l.getD i 0) t.code.length with
      | true =>
        have HX2 : Hid (∀ j, j < i + 1 → ixB (l.getD j 0) t.code.length = true) := by
          intro j hj
          by_cases hji : j = i
          · rw [hji]; exact hb
          · exact HX.out j (by omega)
        rw [hb] at HC
        clear hall HX hA hb
        generalize l.getD i 0 = x at f0 HC
        go_wp2_with fail
        refine (HC _).out.mono ?_; rintro e w1 ⟨rfl, b1⟩
        have hw2 := hw.trans (b1.mono hw.size)
        clear HC f0
        go_wp2_with fail
        go_roundw
        case rel => exact ⟨i + 1, by omega, by go_num, HX2, hw2⟩
        case measure => simp [intOf]; omega
      | false =>
        have HI : Hid (decide (0 ≤ (i : Int)) = !ixAll l t.code.length) := by
          have h1 : ixAll l t.code.length = false := by
            unfold ixAll
            rw [List.all_eq_false]
            exact ⟨l.getD i 0, getD_mem hlt, by rw [hb]; simp⟩
          show _ = _
          rw [h1]; simp
        rw [hb] at HC
        clear hall HX hA hb
        generalize l.getD i 0 = x at f0 HC
        go_wp2_with fail
        refine (HC _).out.mono ?_; rintro e w1 ⟨rfl, b1⟩
        have hw2 := hw.trans (b1.mono hw.size)
        clear HC f0
        go_wp2_with fail
        go_ret
        exact ⟨_, rfl, HI.out, by omega, by omega, hw2⟩
    · have hii : ¬ (i : Int) < (l.length : Int) := by omega
      have HI : Hid (decide (0 ≤ (-1 : Int)) = !ixAll l t.code.length) := by
        have h1 : ixAll l t.code.length = true := by
          unfold ixAll
          rw [List.all_eq_true]
          intro x hx
          obtain ⟨k, hk, rfl⟩ := List.getElem_of_mem hx
          have := HX.out k (by omega)
          rwa [List.getD_eq_getElem?_getD, List.getElem?_eq_getElem hk] at this
        show _ = _
        rw [h1]; simp
      clear HX hA
      go_wp2_with fail
      go_ret
      exact ⟨_, rfl, HI.out, by omega, by omega, hw⟩

set_option maxRecDepth 100000 in
set_option maxHeartbeats 1600000 in
theorem iContains (t : Tp) (ac : Option Addr) (cc : Nat) (ag : Option Addr) (cg : Nat) (ao : Option Addr) (co : Nat) (a : Option Addr) (cap : Nat) (l : List Int) (w : World) (hA : At w a l) (hl : l.length ≤ 1048576) :
    Calls Try.prog 188 #[.slice a l.length cap, .func (Fn.func 130) #[tpv t ac cc ag cg ao co] #[]] w fun e w' => e = .returned (.bool (!ixAll l t.code.length)) ∧ Below w.heap.size w w' := by
  go_enter Try.func188, Try.ntmps188
  go_wp2_with fail
  refine (iIndexLacks t ac cc ag cg ao co a cap l w hA hl).mono ?_; rintro e w1 ⟨r, rfl, hr, h1, h2, b1⟩
  go_wp2_with fail
  go_ret
  exact ⟨ret_bool (by rw [← hr]), b1⟩

theorem ixAll_dirl {t : Tp} : ixAll (dirl t) t.code.length = (guardsB t && outsB t) := by
  unfold ixAll dirl guardsB outsB
  rw [List.all_append, Bool.and_comm]
  congr 1
  · rw [Bool.eq_iff_iff, List.all_eq_true, List.all_eq_true]
    constructor
    · intro h i hi
      have hi := List.mem_range.1 hi
      refine h _ ?_
      rw [List.mem_map]
      exact ⟨t.guards.getD i noG, by rw [List.getD_eq_getElem?_getD, List.getElem?_eq_getElem hi]; exact List.getElem_mem hi, rfl⟩
    · intro h x hx
      obtain ⟨g, hg, rfl⟩ := List.mem_map.1 hx
      obtain ⟨k, hk, rfl⟩ := List.getElem_of_mem hg
      have := h k (List.mem_range.2 hk)
      rwa [List.getD_eq_getElem?_getD, List.getElem?_eq_getElem hk] at this
  · rw [Bool.eq_iff_iff, List.all_eq_true, List.all_eq_true]
    constructor
    · intro h i hi
      have hi := List.mem_range.1 hi
      exact h _ (getD_mem hi)
    · intro h x hx
      obtain ⟨k, hk, rfl⟩ := List.getElem_of_mem hx
      have := h k (List.mem_range.2 hk)
      rwa [List.getD_eq_getElem?_getD, List.getElem?_eq_getElem hk] at this

set_option maxRecDepth 100000 in
set_option maxHeartbeats 6400000 in
theorem iValidTape (t : Tp) (ac : Option Addr) (cc : Nat) (ag : Option Addr) (cg : Nat) (ao : Option Addr) (co : Nat) (w : World) (hP : Tat w 0 w.heap.size t ac ag ao) (hs : tpSize t ≤ 1048576) :
    Calls Try.prog 129 #[tpv t ac cc ag cg ao co] w fun e w' => e = .returned (.bool (tapeB t)) ∧ Below w.heap.size w w' := by
  unfold tpv
  have hs1 : t.code.length ≤ 1048576 := by unfold tpSize at hs; omega
  have hs2 : t.guards.length ≤ 1048576 := by unfold tpSize at hs; omega
  have hs3 : t.outs.length ≤ 1048576 := by unfold tpSize at hs; omega
  obtain ⟨w0, hw0⟩ : ∃ w0, w0 = w.alloc (.cells #[.int .i64 t.inputs, .slice ac t.code.length cc, .slice ag t.guards.length cg, .slice ao t.outs.length co] 85) := ⟨_, rfl⟩
  have A0 : Below w.heap.size w w0 := by rw [hw0]; exact (Below.refl _ _).alloc (Nat.le_refl _) _
  have z0 : w0.heap.size = w.heap.size + 1 := by rw [hw0]; simp
  have p0 : w0.cell? ⟨w.heap.size, 0, none⟩ = some (.int .i64 t.inputs) := by rw [hw0]; simp [go_sem]
  have p1 : w0.cell? ⟨w.heap.size, 1, none⟩ = some (.slice ac t.code.length cc) := by rw [hw0]; simp [go_sem]
  have p2 : w0.cell? ⟨w.heap.size, 2, none⟩ = some (.slice ag t.guards.length cg) := by rw [hw0]; simp [go_sem]
  have p3 : w0.cell? ⟨w.heap.size, 3, none⟩ = some (.slice ao t.outs.length co) := by rw [hw0]; simp [go_sem]
  have P0 := Lib.hid ((hP.below A0).mono (Nat.le_refl _) A0.size)
  clear hP hs
  by_cases k0 : 0 ≤ t.inputs ∧ t.inputs ≤ 12
  · have HI := fun (W : World) => Lib.hid (tIx t.inputs 13 W)
    rw [ixB_of (show 0 ≤ t.inputs ∧ t.inputs < 13 by omega)] at HI
    by_cases k1 : t.code.length ≤ 3200
    · have d1 : ¬ (3200 : Int) < (t.code.length : Int) := by omega
      by_cases k2 : t.guards.length ≤ 3200
      · have d2 : ¬ (3200 : Int) < (t.guards.length : Int) := by omega
        by_cases k3 : 1 ≤ t.outs.length
        · have d3 : ¬ (t.outs.length : Int) < 1 := by omega
          by_cases k4 : t.outs.length ≤ 12
          · have d4 : ¬ (12 : Int) < (t.outs.length : Int) := by omega
            have HH : Hid (headB t = true) := decide_eq_true ⟨k0.1, k0.2, k1, k2, k3, k4⟩
            go_enter Try.func129, Try.ntmps129
            go_wp2_with fail
            rw [← hw0]
            clear hw0
            refine (HI _).out.mono ?_; rintro e w' ⟨rfl, rfl⟩
            clear HI
            go_wp2_with fail
            go_loopw [34] (fun q wr => ∃ i : Nat, i ≤ t.code.length ∧ q = .int .i64 i ∧ Hid (∀ j, j < i → insB (t.code.getD j no4) j t.inputs = true) ∧ Below w0.heap.size w0 wr) (fun q _ => t.code.length - (intOf q).toNat)
            case atStart => exact ⟨0, Nat.zero_le _, rfl, (fun j hj => by omega), Below.refl _ _⟩
            case round =>
              obtain ⟨i, hi, rfl, HX, hw⟩ := hrel
              have q0 := (hw.cell (p := ⟨w.heap.size, 0, none⟩) (by show w.heap.size < _; omega)).trans p0
              have zr := hw.size
              by_cases hlt : i < t.code.length
              · have hii : (i : Int) < (t.code.length : Int) := by omega
                obtain ⟨bf, of, rfl, hbB, hall⟩ := ((P0.out.code.below hw).resolve_left (by intro e; rw [e] at hlt; simp at hlt))
                obtain ⟨hr, f0, f1, f2, f3⟩ := hall i hlt
                have HC := fun (W : World) => Lib.hid (iInstr (t.code.getD i no4) i t.inputs W)
                have hlr : w.heap.size < wr.heap.size := by omega
                clear hall hr p0 p1 p2 p3 P0
                cases hb : insB (t.code.getD i no4) i t.inputs with
                | true =>
                  have HX2 : Hid (∀ j, j < i + 1 → insB (t.code.getD j no4) j t.inputs = true) := by
                    intro j hj
                    by_cases hji : j = i
                    · rw [hji]; exact hb
                    · exact HX.out j (by omega)
                  rw [hb] at HC
                  clear hb HX
                  generalize t.code.getD i no4 = f at f0 f1 f2 f3 HC
                  go_wp2_with fail
                  refine (HC _).out.mono ?_; rintro e w1 ⟨rfl, hb2⟩
                  have hw2 := (hw.alloc hw.size (.cells #[.int .i64 f.op, .int .i64 f.a, .int .i64 f.b, .int .i64 f.num] 173)).trans (hb2.mono (by simp; omega))
                  clear HC f0 f1 f2 f3 q0
                  go_wp2_with fail
                  go_roundw
                  case rel => exact ⟨i + 1, by omega, by go_num, HX2, hw2⟩
                  case measure => simp [intOf]; omega
                | false =>
                  have HF := Lib.hid (tapeB_code hlt hb)
                  rw [hb] at HC
                  clear hb HX
                  generalize t.code.getD i no4 = f at f0 f1 f2 f3 HC
                  go_wp2_with fail
                  refine (HC _).out.mono ?_; rintro e w1 ⟨rfl, hb2⟩
                  have hw2 := (hw.alloc hw.size (.cells #[.int .i64 f.op, .int .i64 f.a, .int .i64 f.b, .int .i64 f.num] 173)).trans (hb2.mono (by simp; omega))
                  clear HC f0 f1 f2 f3 q0
                  go_wp2_with fail
                  go_ret
                  exact ⟨ret_bool HF.out.symm, A0.trans (hw2.mono A0.size)⟩
              · have hii : ¬ (i : Int) < (t.code.length : Int) := by omega
                have HF : Hid (tapeB t = ixAll (dirl t) t.code.length) := by
                  have e1 : codeB t = true := allB_t (fun j hj => HX.out j (by omega))
                  show _ = _
                  rw [ixAll_dirl]; simp [tapeB, HH.out, e1]
                have q1 := (hw.cell (p := ⟨w.heap.size, 1, none⟩) (by show w.heap.size < _; omega)).trans p1
                have q2 := (hw.cell (p := ⟨w.heap.size, 2, none⟩) (by show w.heap.size < _; omega)).trans p2
                have q3 := (hw.cell (p := ⟨w.heap.size, 3, none⟩) (by show w.heap.size < _; omega)).trans p3
                have HD := fun (W : World) (hW : Below wr.heap.size wr W) => Lib.hid (iReads t ac cc ag cg ao co W (((P0.out.below hw).mono (Nat.le_refl _) hw.size |>.below hW).mono (Nat.le_refl _) hW.size) k3 k4 k2)
                have hlr : w.heap.size < wr.heap.size := by omega
                clear HX p0 p1 p2 p3 P0 hlt
                go_wp2_with fail
                go_region_held3 (fun w' => w'.cell? ⟨w.heap.size, 0, none⟩ = some (.int .i64 t.inputs) ∧ w'.cell? ⟨w.heap.size, 1, none⟩ = some (.slice ac t.code.length cc) ∧ w'.cell? ⟨w.heap.size, 2, none⟩ = some (.slice ag t.guards.length cg) ∧ w'.cell? ⟨w.heap.size, 3, none⟩ = some (.slice ao t.outs.length co))
                  (first
                    | exact ⟨q0, q1, q2, q3⟩
                    | exact ⟨(hb9.cell (p := ⟨w.heap.size, 0, none⟩) hlr).trans q0, (hb9.cell (p := ⟨w.heap.size, 1, none⟩) hlr).trans q1, (hb9.cell (p := ⟨w.heap.size, 2, none⟩) hlr).trans q2, (hb9.cell (p := ⟨w.heap.size, 3, none⟩) hlr).trans q3⟩
                    | exact ⟨(hb8.cell (p := ⟨w.heap.size, 0, none⟩) hlr).trans q0, (hb8.cell (p := ⟨w.heap.size, 1, none⟩) hlr).trans q1, (hb8.cell (p := ⟨w.heap.size, 2, none⟩) hlr).trans q2, (hb8.cell (p := ⟨w.heap.size, 3, none⟩) hlr).trans q3⟩
                    | go_keep)
                  (first
                    | (go_at_call 189; refine (HD _ (tbdrew (Below.refl _ _))).out.mono ?_; rintro e w8 ⟨g8, c8, rfl, ho8, hb8'⟩; have hb8 : Below wr.heap.size wr w8 := ⟨hb8'.os, hb8'.tape, hb8'.output, hb8'.size, hb8'.block⟩)
                    | (go_at_call 188; refine (iContains t ac cc ag cg ao co _ c8 (dirl t) _ ho8.at (by rw [dirl_len]; omega)).mono ?_; rintro e w9 ⟨rfl, hb9'⟩; have hb9 : Below wr.heap.size wr w9 := hb8.trans (hb9'.mono hb8.size)))
                all_goals
                  go_wp2_with fail
                  go_ret
                  exact ⟨ret_bool (by rw [HF.out]), A0.trans ((hw.trans (hb9.mono hw.size)).mono A0.size)⟩
          · have d4 : (12 : Int) < (t.outs.length : Int) := by omega
            have HF : Hid (tapeB t = false) := tapeB_head (decide_eq_false (fun h => k4 h.2.2.2.2.2))
            go_enter Try.func129, Try.ntmps129
            go_wp2_with fail
            rw [← hw0]
            clear hw0
            refine (HI _).out.mono ?_; rintro e w' ⟨rfl, rfl⟩
            go_wp2_with fail
            go_ret
            exact ⟨ret_bool HF.out.symm, A0⟩
        · have d3 : (t.outs.length : Int) < 1 := by omega
          have HF : Hid (tapeB t = false) := tapeB_head (decide_eq_false (fun h => k3 h.2.2.2.2.1))
          go_enter Try.func129, Try.ntmps129
          go_wp2_with fail
          rw [← hw0]
          clear hw0
          refine (HI _).out.mono ?_; rintro e w' ⟨rfl, rfl⟩
          go_wp2_with fail
          go_ret
          exact ⟨ret_bool HF.out.symm, A0⟩
      · have d2 : (3200 : Int) < (t.guards.length : Int) := by omega
        have HF : Hid (tapeB t = false) := tapeB_head (decide_eq_false (fun h => k2 h.2.2.2.1))
        go_enter Try.func129, Try.ntmps129
        go_wp2_with fail
        rw [← hw0]
        clear hw0
        refine (HI _).out.mono ?_; rintro e w' ⟨rfl, rfl⟩
        go_wp2_with fail
        go_ret
        exact ⟨ret_bool HF.out.symm, A0⟩
    · have d1 : (3200 : Int) < (t.code.length : Int) := by omega
      have HF : Hid (tapeB t = false) := tapeB_head (decide_eq_false (fun h => k1 h.2.2.1))
      go_enter Try.func129, Try.ntmps129
      go_wp2_with fail
      rw [← hw0]
      clear hw0
      refine (HI _).out.mono ?_; rintro e w' ⟨rfl, rfl⟩
      go_wp2_with fail
      go_ret
      exact ⟨ret_bool HF.out.symm, A0⟩
  · have HF : Hid (tapeB t = false) := tapeB_head (decide_eq_false (fun h => k0 ⟨h.1, h.2.1⟩))
    have HI := fun (W : World) => Lib.hid (tIx t.inputs 13 W)
    rw [ixB_no (show ¬ (0 ≤ t.inputs ∧ t.inputs < 13) by omega)] at HI
    go_enter Try.func129, Try.ntmps129
    go_wp2_with fail
    rw [← hw0]
    clear hw0
    refine (HI _).out.mono ?_; rintro e w' ⟨rfl, rfl⟩
    go_wp2_with fail
    go_ret
    exact ⟨ret_bool HF.out.symm, A0⟩

end Go.Proofs.Ytiimebiecihpkaa
