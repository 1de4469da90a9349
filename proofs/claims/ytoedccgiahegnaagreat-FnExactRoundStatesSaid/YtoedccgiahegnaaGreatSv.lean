/- The model: sizes, depths, and which programs are valid. -/
import Derived.Deep.QuietTactic
import Derived.IntWalk
import Derived.BigQuiet
import Derived.Test.YtoedccgiahegnaaGreatEq
namespace Go.Proofs.YtoedccgiahegnaaGreat
open Go.RowKit
set_option linter.unusedVariables false

theorem quiet_more {P : Program} {f : FuncId} {args : Array Value} {w : World} {a n : Nat} {v : Value}
    (h : Calls P f args (w.drewN (a + n)) fun e w' => e = .returned v ∧ w.drewN (a + n) = w') : Calls P f args (w.drewN (a + n)) fun e w'' => e = .returned v ∧ ∃ m, w'' = w.drewN (a + m) :=
  h.mono fun _ _ ⟨he, hm⟩ => ⟨he, n, hm.symm⟩

theorem Fo.size_cons {f : Fo} {i : Nat} {k n p c : Int} {ks : Fo} (h : Fo.drop i f = .cons k n p c ks (Fo.drop (i + 1) f)) : (Fo.drop i f).size = (ks.size + 1) + (Fo.drop (i + 1) f).size := by
  rw [h]; show ks.size + (Fo.drop (i + 1) f).size + 1 = _; omega
theorem szv_neg {m : Nat} {x : Int} (h : x < (m : Int)) : szv m x = -1 := szv_f (by omega)

set_option maxRecDepth 100000 in
set_option maxHeartbeats 1600000 in
theorem sLeft_all : ∀ (m : Nat) (ks : Fo), ks.size < m → ∀ (b off : Nat) (a' : Option Addr) (cap : Nat) (x : Int) (w : World), w.cell? ⟨b, off + 4, none⟩ = some (.slice a' ks.len cap) → Fat w 0 w.heap.size ks a' → ks.len ≤ maxLen → 0 ≤ x → x ≤ 1048576 →
    Calls Tryz.prog 124 #[.pointer (some ⟨b, off, none⟩), .int .i64 x] w fun e w' => e = .returned (.int .i64 (szv (ks.size + 1) x)) ∧ w = w' := by
  intro m
  induction m with
  | zero => intro f hf; omega
  | succ m ih =>
    intro ks hf b off a' cap x w hc hF hlen h0 h1
    unfold maxLen at hlen
    have hlen2 : ks.len ≤ 9223372036854775807 := by omega
    clear hlen
    have H0 : Hid (szv (ks.size + 1) x = if x - 1 < 0 then -1 else szv (Fo.drop 0 ks).size (x - 1)) := by
      show _ = _
      rw [Fo.drop_zero]
      by_cases hx : x - 1 < 0
      · rw [if_pos hx]; exact szv_neg (by omega)
      · rw [if_neg hx, Nat.add_comm]; exact szv_add (a := 1) (by omega)
    go_enter Tryz.func124, Tryz.ntmps124
    go_wp2_with fail
    go_loop [1, 5] (fun q i => ∃ (k : Nat) (y : Int), k ≤ ks.len ∧ i = .int .i64 k ∧ q = .int .i64 y ∧ -1 ≤ y ∧ y ≤ 1048576 ∧ Hid (szv (ks.size + 1) x = if y < 0 then -1 else szv (Fo.drop k ks).size y)) (fun _ i => ks.len - (intOf i).toNat)
    case atStart => exact ⟨0, x - 1, Nat.zero_le _, rfl, rfl, by omega, by omega, H0⟩
    case round =>
      obtain ⟨k, y, hk, rfl, rfl, hy0, hy1, HX⟩ := hrel
      clear H0
      by_cases hlt : k < ks.len
      · have hi : (k : Int) < (ks.len : Int) := by omega
        by_cases hy : 0 ≤ y
        · obtain ⟨b1, o1, rfl, hbB⟩ := hF.blk (by omega)
          obtain ⟨k1, n1, p1, c1, kk, a2, cap2, hdr, hr, hkl, c0, d1, d2, d3, d4, hk'⟩ := hF.node hlt
          have hlt' := Fo.kid_lt hdr
          have HC := Lib.hid (ih kk (by omega) b1 (o1 + k * 5) a2 cap2 y w d4 hk' hkl hy hy1)
          have HU := Lib.hid (Fo.size_cons hdr)
          have hd : decide (0 ≤ y) = true := decide_eq_true hy
          clear hk' hF hdr hr hkl hlt' ih c0 d1 d2 d3 d4
          go_wp2_with fail
          refine (HC.out).mono ?_; rintro e w' ⟨rfl, rfl⟩
          have HX2 : Hid (szv (ks.size + 1) x = if szv (kk.size + 1) y < 0 then -1 else szv (Fo.drop (k + 1) ks).size (szv (kk.size + 1) y)) := by
            show _ = _
            have e1 := HX.out
            rw [if_neg (by omega), HU.out] at e1
            by_cases hs : ((kk.size + 1 : Nat) : Int) ≤ y
            · rw [szv_t hs, if_neg (by omega), e1]; exact szv_add hs
            · rw [szv_f hs, if_pos (by omega), e1]; exact szv_over hs
          have hz0 : -1 ≤ szv (kk.size + 1) y := by unfold szv; split <;> omega
          have hz1 : szv (kk.size + 1) y ≤ 1048576 := by unfold szv; split <;> omega
          generalize szv (kk.size + 1) y = z at HX2 hz0 hz1
          clear HC HU HX hd
          go_wp2_with fail
          go_round
          case rel => exact ⟨k + 1, z, by omega, by go_num, rfl, hz0, hz1, HX2⟩
          case measure => simp [intOf]; omega
        · have HX2 : Hid (szv (ks.size + 1) x = y) := by
            show _ = _
            rw [HX.out, if_pos (by omega)]; omega
          have hd : decide (0 ≤ y) = false := decide_eq_false hy
          clear HX
          go_wp2_with fail
          go_ret
          exact ⟨ret_int HX2.out.symm, rfl⟩
      · have hi : ¬ (k : Int) < (ks.len : Int) := by omega
        have HX2 : Hid (szv (ks.size + 1) x = y) := by
          show _ = _
          rw [HX.out, Fo.drop_end (by omega)]
          by_cases hy : y < 0
          · rw [if_pos hy]; omega
          · rw [if_neg hy]; exact (szv_t (by show (0 : Int) ≤ y; omega)).trans (by show y - (0 : Int) = y; omega)
        clear HX
        go_wp2_with fail
        go_ret
        exact ⟨ret_int HX2.out.symm, rfl⟩

set_option maxHeartbeats 400000 in
theorem sMax (a b : Int) (w : World) :
    Calls Tryz.prog 151 #[.int .i64 a, .int .i64 b] w fun e w' => e = .returned (.int .i64 (if b < a then a else b)) ∧ w = w' := by
  by_cases h : b < a
  · have hd : decide (b < a) = true := decide_eq_true h
    go_enter Tryz.func151, Tryz.ntmps151
    go_wp2
    go_ret
    exact ⟨rfl, rfl⟩
  · have hd : decide (b < a) = false := decide_eq_false h
    go_enter Tryz.func151, Tryz.ntmps151
    go_wp2
    go_ret
    exact ⟨rfl, rfl⟩

theorem Fo.depth_cons {f : Fo} {i : Nat} {k n p c : Int} {ks : Fo} (h : Fo.drop i f = .cons k n p c ks (Fo.drop (i + 1) f)) : (Fo.drop i f).depth = max (ks.depth + 1) (Fo.drop (i + 1) f).depth := by
  rw [h]; rfl

set_option maxRecDepth 100000 in
set_option maxHeartbeats 1600000 in
theorem sDepth_all : ∀ (m : Nat) (ks : Fo), ks.size < m → ∀ (b off : Nat) (a' : Option Addr) (cap : Nat) (w : World), w.cell? ⟨b, off + 4, none⟩ = some (.slice a' ks.len cap) → Fat w 0 w.heap.size ks a' → ks.size ≤ 1048576 →
    Calls Tryz.prog 141 #[.pointer (some ⟨b, off, none⟩)] w fun e w' => e = .returned (.int .i64 ((ks.depth + 1 : Nat) : Int)) ∧ w = w' := by
  intro m
  induction m with
  | zero => intro f hf; omega
  | succ m ih =>
    intro ks hf b off a' cap w hc hF hsz
    have hll := Fo.len_le ks
    have hdl := Fo.depth_le ks
    have hlen2 : ks.len ≤ 9223372036854775807 := by omega
    have H0 : Hid (ks.depth = max 0 (Fo.drop 0 ks).depth) := by
      show _ = _
      rw [Fo.drop_zero]; omega
    go_enter Tryz.func141, Tryz.ntmps141
    go_wp2_with fail
    go_loop [3, 4] (fun q i => ∃ (k y : Nat), k ≤ ks.len ∧ i = .int .i64 k ∧ q = .int .i64 y ∧ y ≤ 1048576 ∧ Hid (ks.depth = max y (Fo.drop k ks).depth)) (fun _ i => ks.len - (intOf i).toNat)
    case atStart => exact ⟨0, 0, Nat.zero_le _, rfl, rfl, by omega, H0⟩
    case round =>
      obtain ⟨k, y, hk, rfl, rfl, hy1, HX⟩ := hrel
      clear H0
      by_cases hlt : k < ks.len
      · have hi : (k : Int) < (ks.len : Int) := by omega
        obtain ⟨b1, o1, rfl, hbB⟩ := hF.blk (by omega)
        obtain ⟨k1, n1, p1, c1, kk, a2, cap2, hdr, hr, hkl, c0, d1, d2, d3, d4, hk'⟩ := hF.node hlt
        have hlt' := Fo.kid_lt hdr
        have HC := Lib.hid (ih kk (by omega) b1 (o1 + k * 5) a2 cap2 w d4 hk' (by omega))
        have HU := Lib.hid (Fo.depth_cons hdr)
        have hdk := Fo.depth_le kk
        have hdk2 : kk.depth + 1 ≤ 1048576 := by omega
        clear hk' hF hdr hr hkl hlt' ih c0 d1 d2 d3 d4 hdk
        go_wp2_with fail
        refine (HC.out).mono ?_; rintro e w' ⟨rfl, rfl⟩
        have HX2 : Hid (ks.depth = max (max y (kk.depth + 1)) (Fo.drop (k + 1) ks).depth) := by
          show _ = _
          rw [HX.out, HU.out]; omega
        have hz1 : max y (kk.depth + 1) ≤ 1048576 := by omega
        have hmx : (if (kk.depth : Int) + 1 < (y : Int) then (y : Int) else (kk.depth : Int) + 1) = ((max y (kk.depth + 1) : Nat) : Int) := by split <;> omega
        clear HC HU HX
        go_wp2_with fail
        refine (sMax _ _ _).mono ?_; rintro e w' ⟨rfl, rfl⟩
        rw [hmx]
        clear hmx
        generalize max y (kk.depth + 1) = z at HX2 hz1
        go_wp2_with fail
        go_round
        case rel => exact ⟨k + 1, z, by omega, by go_num, rfl, hz1, HX2⟩
        case measure => simp [intOf]; omega
      · have hi : ¬ (k : Int) < (ks.len : Int) := by omega
        have HX2 : Hid (ks.depth = y) := by
          show _ = _
          rw [HX.out, Fo.drop_end (by omega)]
          show max y 0 = y; omega
        clear HX
        go_wp2_with fail
        go_ret
        exact ⟨ret_int (by rw [HX2.out]), rfl⟩

theorem kind_cases (k : Int) : k = 1 ∨ k = 2 ∨ k = 3 ∨ k = 4 ∨ k = 5 ∨ k = 6 ∨ k = 7 ∨ k = 8 ∨ k = 9 ∨ (k ≠ 1 ∧ k ≠ 2 ∧ k ≠ 3 ∧ k ≠ 4 ∧ k ≠ 5 ∧ k ≠ 6 ∧ k ≠ 7 ∧ k ≠ 8 ∧ k ≠ 9) := by omega
theorem ne_beq {a b : Int} (h : a ≠ b) : (a == b) = false := by simpa using h

set_option maxHeartbeats 1600000 in
theorem sKids (k : Int) (w : World) : Calls Tryz.prog 154 #[.int .i64 k] w fun e w' => e = .returned (.int .i64 (kidsNo k)) ∧ w = w' := by
  rcases kind_cases k with rfl | rfl | rfl | rfl | rfl | rfl | rfl | rfl | rfl | ⟨h1, h2, h3, h4, h5, h6, h7, h8, h9⟩
  iterate 9
    · go_enter Tryz.func154, Tryz.ntmps154
      go_wp2
      go_ret
      exact ⟨rfl, rfl⟩
  · have HK : Hid (kidsNo k = -1) := by
      show _ = _
      unfold kidsNo
      rw [if_neg (by omega), if_neg (by omega), if_neg (by omega), if_neg (by omega)]
    have d1 := ne_beq h1
    have d2 := ne_beq h2
    have d3 := ne_beq h3
    have d4 := ne_beq h4
    have d5 := ne_beq h5
    have d6 := ne_beq h6
    have d7 := ne_beq h7
    have d8 := ne_beq h8
    have d9 := ne_beq h9
    clear h1 h2 h3 h4 h5 h6 h7 h8 h9
    go_enter Tryz.func154, Tryz.ntmps154
    go_wp2
    go_ret
    exact ⟨ret_int HK.out.symm, rfl⟩

/-- The call only reads. -/
def Quiet (v : Value) (w : World) (e : Ending) (w' : World) : Prop := e = .returned v ∧ ∃ n, w' = w.drewN n

/-- The five cells of a node. -/
structure NodeAt (w : World) (b off : Nat) (k n p c : Int) (m : Nat) (a : Option Addr) (cap : Nat) : Prop where
  c0 : w.cell? ⟨b, off, none⟩ = some (.int .i64 k)
  c1 : w.cell? ⟨b, off + 1, none⟩ = some (.int .i64 n)
  c2 : w.cell? ⟨b, off + 2, none⟩ = some (.int .i64 p)
  c3 : w.cell? ⟨b, off + 3, none⟩ = some (.int .i64 c)
  c4 : w.cell? ⟨b, off + 4, none⟩ = some (.slice a m cap)

set_option maxRecDepth 100000 in
set_option maxHeartbeats 3200000 in
theorem sNode (fs : List Fn) (bp op : Nat) (ap : Option Addr) (capp : Nat) (b off : Nat) (k n p c : Int) (m : Nat) (a : Option Addr) (cap : Nat) (vars funcs : Int) (w : World)
    (hp : w.cell? ⟨bp, op, none⟩ = some (.slice ap fs.length capp)) (hP : Pat w 0 w.heap.size fs ap) (hN : NodeAt w b off k n p c m a cap) (hR : R4 k n p c)
    (hv : 0 ≤ vars ∧ vars ≤ 2097152) (hf : 0 ≤ funcs ∧ funcs ≤ (fs.length : Int)) (hl : fs.length ≤ 1048576) (hm : m ≤ 1048576) :
    Calls Tryz.prog 152 #[.pointer (some ⟨bp, op, none⟩), .pointer (some ⟨b, off, none⟩), .int .i64 vars, .int .i64 funcs] w (Quiet (.bool (nodeB fs vars funcs k n p c m)) w) := by
  obtain ⟨c0, c1, c2, c3, c4⟩ := hN
  by_cases hk : k = 10 ∨ k = 11
  · by_cases hn : 0 ≤ n ∧ n < funcs
    · obtain ⟨j, rfl⟩ := Int.eq_ofNat_of_zero_le hn.1
      have hj : j < fs.length := by omega
      obtain ⟨bf, of, rfl, hbB, hall⟩ := (hP.resolve_left (by intro e; rw [e] at hj; simp at hj))
      obtain ⟨hr, af, cf, f0, f1, f2, _⟩ := hall j hj
      have hlf := hr.2.2
      unfold maxLen at hlf
      have hlf2 : (fs.getD j noFn).outs.len ≤ 9223372036854775807 := by omega
      have hpr := hr.2.1
      have HB : Hid (nodeB fs vars funcs k (j : Int) p c m = (decide (0 ≤ p ∧ p < ((fs.getD j noFn).outs.len : Int)) && (decide ((m : Int) = (fs.getD j noFn).params) &&
      (if k = 10 then decide (c = 0) else decide (0 ≤ c ∧ c ≤ 8) && decide (((fs.getD j noFn).outs.len : Int) = (fs.getD j noFn).params))))) := by
        show _ = _
        unfold nodeB
        rw [if_pos hk, decide_eq_true hn, Bool.true_and]; rfl
      have hjf : (j : Int) < funcs := hn.2
      have hji : (j : Int) < (fs.length : Int) := by omega
      clear hall hP hr hlf hn
      generalize (fs.getD j noFn).outs.len = mo at HB f2 hlf2
      generalize (fs.getD j noFn).params = pa at HB f1 hpr
      by_cases h1 : 0 ≤ p ∧ p < (mo : Int)
      · by_cases h2 : (m : Int) = pa
        · have d2 : ((m : Int) != pa) = false := by simpa using h2
          rcases hk with rfl | rfl
          · have HF : Hid (nodeB fs vars funcs 10 (j : Int) p c m = decide (c = 0)) := by
              show _ = _
              rw [HB.out]; simp [h1, h2]
            clear HB h2
            go_enter Tryz.func152, Tryz.ntmps152
            go_wp2_with fail
            refine (inT (j : Int) 0 (funcs - 1) (by omega) (by omega) _).mono ?_; rintro e w' ⟨rfl, rfl⟩
            go_wp2_with fail
            go_quiet (fail)
            have hw1 : IntKind.i64.wrap ((mo : Int) - 1) = (mo : Int) - 1 := IntWalk.i64_in _ (by omega)
            have HIN := fun W => Lib.hid (inT p 0 ((mo : Int) - 1) (by omega) (by omega) W)
            go_wp2_with fail
            go_quiet ((go_at_call 48; exact quiet_more (HIN _).out))
            go_wp2_with fail
            go_ret
            exact ⟨ret_bool (by rw [HF.out]; rfl), by first | exact ⟨_, rfl⟩ | exact ⟨_, World.drewN_drewN _ _ _⟩⟩
          · by_cases h3 : 0 ≤ c ∧ c ≤ 8
            · have HF : Hid (nodeB fs vars funcs 11 (j : Int) p c m = decide ((mo : Int) = pa)) := by
                show _ = _
                rw [HB.out]; simp [h1, h2, h3]
              clear HB h2
              go_enter Tryz.func152, Tryz.ntmps152
              go_wp2_with fail
              refine (inT (j : Int) 0 (funcs - 1) (by omega) (by omega) _).mono ?_; rintro e w' ⟨rfl, rfl⟩
              go_wp2_with fail
              go_quiet (fail)
              have hw1 : IntKind.i64.wrap ((mo : Int) - 1) = (mo : Int) - 1 := IntWalk.i64_in _ (by omega)
              have HIN := fun W => Lib.hid (inT p 0 ((mo : Int) - 1) (by omega) (by omega) W)
              have HIC := fun W => Lib.hid (inT c 0 8 h3.1 h3.2 W)
              go_wp2_with fail
              go_quiet ((go_at_call 48; exact quiet_more (HIN _).out))
              go_wp2_with fail
              go_quiet ((go_at_call 48; exact quiet_more (HIC _).out))
              go_wp2_with fail
              go_ret
              exact ⟨ret_bool (by rw [HF.out]; rfl), by first | exact ⟨_, rfl⟩ | exact ⟨_, World.drewN_drewN _ _ _⟩⟩
            · have HF : Hid (nodeB fs vars funcs 11 (j : Int) p c m = false) := by
                show _ = _
                rw [HB.out]; simp [h1, h2, h3]
              clear HB h2
              go_enter Tryz.func152, Tryz.ntmps152
              go_wp2_with fail
              refine (inT (j : Int) 0 (funcs - 1) (by omega) (by omega) _).mono ?_; rintro e w' ⟨rfl, rfl⟩
              go_wp2_with fail
              go_quiet (fail)
              have hw1 : IntKind.i64.wrap ((mo : Int) - 1) = (mo : Int) - 1 := IntWalk.i64_in _ (by omega)
              have HIN := fun W => Lib.hid (inT p 0 ((mo : Int) - 1) (by omega) (by omega) W)
              have HIC := fun W => Lib.hid (inF c 0 8 (by omega) W)
              go_wp2_with fail
              go_quiet ((go_at_call 48; exact quiet_more (HIN _).out))
              go_wp2_with fail
              go_quiet ((go_at_call 48; exact quiet_more (HIC _).out))
              go_wp2_with fail
              go_ret
              exact ⟨ret_bool HF.out.symm, by first | exact ⟨_, rfl⟩ | exact ⟨_, World.drewN_drewN _ _ _⟩⟩
        · have d2 : ((m : Int) != pa) = true := by simpa using h2
          have HF : Hid (nodeB fs vars funcs k (j : Int) p c m = false) := by
            show _ = _
            rw [HB.out]; simp [h2]
          clear HB h2
          rcases hk with rfl | rfl
          iterate 2
            ·
              go_enter Tryz.func152, Tryz.ntmps152
              go_wp2_with fail
              refine (inT (j : Int) 0 (funcs - 1) (by omega) (by omega) _).mono ?_; rintro e w' ⟨rfl, rfl⟩
              go_wp2_with fail
              go_quiet (fail)
              have hw1 : IntKind.i64.wrap ((mo : Int) - 1) = (mo : Int) - 1 := IntWalk.i64_in _ (by omega)
              have HIN := fun W => Lib.hid (inT p 0 ((mo : Int) - 1) (by omega) (by omega) W)
              go_wp2_with fail
              go_quiet ((go_at_call 48; exact quiet_more (HIN _).out))
              go_wp2_with fail
              go_ret
              exact ⟨ret_bool HF.out.symm, by first | exact ⟨_, rfl⟩ | exact ⟨_, World.drewN_drewN _ _ _⟩⟩
      · have HF : Hid (nodeB fs vars funcs k (j : Int) p c m = false) := by
          show _ = _
          rw [HB.out]; simp [h1]
        clear HB
        rcases hk with rfl | rfl
        iterate 2
          ·
            go_enter Tryz.func152, Tryz.ntmps152
            go_wp2_with fail
            refine (inT (j : Int) 0 (funcs - 1) (by omega) (by omega) _).mono ?_; rintro e w' ⟨rfl, rfl⟩
            go_wp2_with fail
            go_quiet (fail)
            have hw1 : IntKind.i64.wrap ((mo : Int) - 1) = (mo : Int) - 1 := IntWalk.i64_in _ (by omega)
            have HIN := fun W => Lib.hid (inF p 0 ((mo : Int) - 1) (by omega) W)
            go_wp2_with fail
            go_quiet ((go_at_call 48; exact quiet_more (HIN _).out))
            go_wp2_with fail
            go_ret
            exact ⟨ret_bool HF.out.symm, by first | exact ⟨_, rfl⟩ | exact ⟨_, World.drewN_drewN _ _ _⟩⟩
    · have HF : Hid (nodeB fs vars funcs k n p c m = false) := by
        show _ = _
        unfold nodeB
        rw [if_pos hk, decide_eq_false hn, Bool.false_and]
      rcases hk with rfl | rfl
      · go_enter Tryz.func152, Tryz.ntmps152
        go_wp2_with fail
        refine (inF n 0 (funcs - 1) (by omega) _).mono ?_; rintro e w' ⟨rfl, rfl⟩
        go_wp2_with fail
        go_ret
        exact ⟨ret_bool HF.out.symm, 0, rfl⟩
      · go_enter Tryz.func152, Tryz.ntmps152
        go_wp2_with fail
        refine (inF n 0 (funcs - 1) (by omega) _).mono ?_; rintro e w' ⟨rfl, rfl⟩
        go_wp2_with fail
        go_ret
        exact ⟨ret_bool HF.out.symm, 0, rfl⟩
  · have e10 : (k == 10) = false := ne_beq (by omega)
    have e11 : (k == 11) = false := ne_beq (by omega)
    have HB : Hid (nodeB fs vars funcs k n p c m = (decide (kidsNo k = (m : Int) ∧ p = 0 ∧ c = 0) && (if k = 1 then decide (0 ≤ n ∧ n < 1000003) else if k = 2 then decide (0 ≤ n ∧ n < vars) else decide (n = 0)))) := if_neg hk
    clear hk hp hP hR
    have HK := Lib.hid (fun W => sKids k W)
    by_cases h1 : kidsNo k = (m : Int)
    · have d1 : (kidsNo k != (m : Int)) = false := by simpa using h1
      by_cases h2 : p = 0
      · subst h2
        by_cases h3 : c = 0
        · subst h3
          have HF : Hid (nodeB fs vars funcs k n 0 0 m = (if k = 1 then decide (0 ≤ n ∧ n < 1000003) else if k = 2 then decide (0 ≤ n ∧ n < vars) else decide (n = 0))) := by
            show _ = _
            rw [HB.out]; simp [h1]
          clear h1 HB
          rcases (by omega : k = 1 ∨ k = 2 ∨ (k ≠ 1 ∧ k ≠ 2)) with hk | hk | ⟨hk1, hk2⟩
          · subst hk
            have HF2 : Hid (nodeB fs vars funcs 1 n 0 0 m = okNum n) := HF.out
            clear HF
            generalize kidsNo 1 = kn at d1 HK
            go_enter Tryz.func152, Tryz.ntmps152
            go_wp2_with fail
            go_quiet ((go_at_call 154; exact quiet_same (HK.out _)))
            go_wp2_with fail
            refine (sNumber n _).mono ?_; rintro e w' ⟨rfl, rfl⟩
            go_wp2_with fail
            go_ret
            exact ⟨ret_bool HF2.out.symm, _, rfl⟩
          · subst hk
            have HF2 : Hid (nodeB fs vars funcs 2 n 0 0 m = decide (0 ≤ n ∧ n < vars)) := HF.out
            clear HF
            generalize kidsNo 2 = kn at d1 HK
            by_cases hn : 0 ≤ n ∧ n < vars
            · have HF3 : Hid (nodeB fs vars funcs 2 n 0 0 m = true) := HF2.out.trans (decide_eq_true hn)
              go_enter Tryz.func152, Tryz.ntmps152
              go_wp2_with fail
              go_quiet ((go_at_call 154; exact quiet_same (HK.out _)))
              go_wp2_with fail
              refine (inT n 0 (vars - 1) (by omega) (by omega) _).mono ?_; rintro e w' ⟨rfl, rfl⟩
              go_wp2_with fail
              go_ret
              exact ⟨ret_bool HF3.out.symm, _, rfl⟩
            · have HF3 : Hid (nodeB fs vars funcs 2 n 0 0 m = false) := HF2.out.trans (decide_eq_false hn)
              go_enter Tryz.func152, Tryz.ntmps152
              go_wp2_with fail
              go_quiet ((go_at_call 154; exact quiet_same (HK.out _)))
              go_wp2_with fail
              refine (inF n 0 (vars - 1) (by omega) _).mono ?_; rintro e w' ⟨rfl, rfl⟩
              go_wp2_with fail
              go_ret
              exact ⟨ret_bool HF3.out.symm, _, rfl⟩
          · have HF2 : Hid (nodeB fs vars funcs k n 0 0 m = decide (n = 0)) := by
              show _ = _
              rw [HF.out, if_neg hk1, if_neg hk2]
            have f1 : (k == 1) = false := ne_beq hk1
            have f2 : (k == 2) = false := ne_beq hk2
            clear HF hk1 hk2
            generalize kidsNo k = kn at d1 HK
            go_enter Tryz.func152, Tryz.ntmps152
            go_wp2_with fail
            go_quiet ((go_at_call 154; exact quiet_same (HK.out _)))
            go_wp2_with fail
            go_ret
            exact ⟨ret_bool (by rw [HF2.out]; rfl), _, rfl⟩
        · have HF : Hid (nodeB fs vars funcs k n 0 c m = false) := by
            show _ = _
            rw [HB.out]; simp [h3]
          have d3 : (c != 0) = true := by simpa using h3
          clear h1 h3 HB
          generalize kidsNo k = kn at d1 HK
          go_enter Tryz.func152, Tryz.ntmps152
          go_wp2_with fail
          go_quiet ((go_at_call 154; exact quiet_same (HK.out _)))
          go_wp2_with fail
          go_ret
          exact ⟨ret_bool HF.out.symm, by first | exact ⟨_, rfl⟩ | exact ⟨_, World.drewN_drewN _ _ _⟩⟩
      · have HF : Hid (nodeB fs vars funcs k n p c m = false) := by
          show _ = _
          rw [HB.out]; simp [h2]
        have d2 : (p != 0) = true := by simpa using h2
        clear h1 h2 HB
        generalize kidsNo k = kn at d1 HK
        go_enter Tryz.func152, Tryz.ntmps152
        go_wp2_with fail
        go_quiet ((go_at_call 154; exact quiet_same (HK.out _)))
        go_wp2_with fail
        go_ret
        exact ⟨ret_bool HF.out.symm, by first | exact ⟨_, rfl⟩ | exact ⟨_, World.drewN_drewN _ _ _⟩⟩
    · have d1 : (kidsNo k != (m : Int)) = true := by simpa using h1
      have HF : Hid (nodeB fs vars funcs k n p c m = false) := by
        show _ = _
        rw [HB.out]; simp [h1]
      clear h1 HB
      generalize kidsNo k = kn at d1 HK
      go_enter Tryz.func152, Tryz.ntmps152
      go_wp2_with fail
      go_quiet ((go_at_call 154; exact quiet_same (HK.out _)))
      go_wp2_with fail
      go_ret
      exact ⟨ret_bool HF.out.symm, by first | exact ⟨_, rfl⟩ | exact ⟨_, World.drewN_drewN _ _ _⟩⟩

end Go.Proofs.YtoedccgiahegnaaGreat
