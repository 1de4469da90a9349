/- The program's table of least costs, made. -/
import Derived.Test.YtleebjjikpmgoaaCld
import Derived.Test.YtleebjjikpmgoaaClg
import Derived.Deep.RegionHeld3
import Derived.Deep.RegionLaw
namespace Go.Proofs.Ytleebjjikpmgoaa
open Go.RowKit
set_option linter.unusedVariables false

section
set_option maxRecDepth 1000000
def isZ (v : Value) : Bool := match v with | .int .i64 n => decide (n = 0) | _ => false
theorem isZ_eq {v : Value} (h : isZ v = true) : v = .int .i64 0 := by
  unfold isZ at h
  split at h
  · rw [of_decide_eq_true h]
  · cases h
theorem zc_all : (Try.zeroCells133.toList.all isZ && (Try.zeroCells133.toList.length == 15129)) = true := by kernel_rfl
theorem zc_at (i : Nat) (h : i < 15129) : Try.zeroCells133[i]? = some (.int .i64 0) := by
  have h0 := zc_all
  rw [Bool.and_eq_true, beq_iff_eq] at h0
  have h1 : i < Try.zeroCells133.toList.length := by rw [h0.2]; exact h
  have h2 := List.all_eq_true.1 h0.1 _ (List.getElem_mem h1)
  rw [← Array.getElem?_toList, List.getElem?_eq_getElem h1, isZ_eq h2]
end
/-- the sums before each place -/
def pre (wt : List Int) (k : Nat) : List Int := tab (sumK wt) (k + 1)
theorem pre_succ (wt : List Int) (k : Nat) : pre wt k ++ [sumK wt (k + 1)] = pre wt (k + 1) := (tab_succ _ _).symm
theorem pre_len (wt : List Int) (k : Nat) : (pre wt k).length = k + 1 := tab_len _ _
theorem pre_at {wt : List Int} {k i : Nat} (h : i ≤ k) : (pre wt k).getD i 0 = sumK wt i := tab_at (by omega)

/-- the table so far: filled for sizes below s, and for size s up to place k, and there up to cc slots -/
def curP (wt : List Int) (n s k cc c a b : Nat) : Int := if 1 ≤ c ∧ c ≤ 8 ∧ b ≤ n ∧ (b - a < s ∨ (b - a = s ∧ (a < k ∨ (a = k ∧ c < cc)))) then lcK wt c a b else 0
theorem curP_0 {wt : List Int} {n c a b : Nat} : curP wt n 2 0 1 c a b = 0 := by
  unfold curP
  split
  · exact lcK_small (by omega)
  · rfl
theorem curP_k {wt : List Int} {n s k c a b : Nat} (hc : c ≤ 8) : curP wt n s k 9 c a b = curP wt n s (k + 1) 1 c a b := by
  unfold curP
  by_cases h : 1 ≤ c ∧ c ≤ 8 ∧ b ≤ n ∧ (b - a < s ∨ (b - a = s ∧ (a < k ∨ (a = k ∧ c < 9))))
  · rw [if_pos h, if_pos (by omega)]
  · rw [if_neg h, if_neg (by omega)]
theorem curP_s {wt : List Int} {n s k c a b : Nat} (hs : 1 ≤ s) (hk : n < k + s) : curP wt n s k 1 c a b = curP wt n (s + 1) 0 1 c a b := by
  unfold curP
  by_cases h : 1 ≤ c ∧ c ≤ 8 ∧ b ≤ n ∧ (b - a < s ∨ (b - a = s ∧ (a < k ∨ (a = k ∧ c < 1))))
  · rw [if_pos h, if_pos (by omega)]
  · rw [if_neg h, if_neg (by omega)]
/-- the whole table -/
def allP (wt : List Int) (n c a b : Nat) : Int := if 1 ≤ c ∧ c ≤ 8 ∧ b ≤ n then lcK wt c a b else 0
theorem curP_all {wt : List Int} {n s c a b : Nat} (hs : n < s) : curP wt n s 0 1 c a b = allP wt n c a b := by
  unfold curP allP
  by_cases h : 1 ≤ c ∧ c ≤ 8 ∧ b ≤ n
  · rw [if_pos h, if_pos (by omega)]
  · rw [if_neg h, if_neg (by omega)]
theorem TabAt.to {W : World} {g : Nat} {F F' : Nat → Nat → Nat → Int} (h : TabAt W g F) (he : ∀ c a b, a ≤ 40 → b ≤ 40 → c ≤ 8 → F c a b = F' c a b) : TabAt W g F' := fun a b c ha hb hc => by rw [← he c a b ha hb hc]; exact h a b c ha hb hc
theorem TabAt.below {W W' : World} {g : Nat} {F : Nat → Nat → Nat → Int} (h : TabAt W g F) (hb : Below W.heap.size W W') (hg : g < W.heap.size) : TabAt W' g F := fun a b c h1 h2 h3 => (hb.cell (p := ⟨g, a * 369 + b * 9 + c, none⟩) hg).trans (h a b c h1 h2 h3)
theorem TabAt.set {W : World} {g : Nat} {F : Nat → Nat → Nat → Int} (h : TabAt W g F) {a b c : Nat} (x : Int) (ha : a ≤ 40) (hb : b ≤ 40) (hc : c ≤ 8) :
    TabAt (W.setCell ⟨g, a * 369 + b * 9 + c, none⟩ (.int .i64 x)) g (fun c' a' b' => if c' = c ∧ a' = a ∧ b' = b then x else F c' a' b') := by
  intro a' b' c' ha' hb' hc'
  by_cases e : c' = c ∧ a' = a ∧ b' = b
  · obtain ⟨rfl, rfl, rfl⟩ := e
    simp only [and_self, if_true]
    exact World.cell?_setCell_same _ _ _ (h a' b' c' ha hb hc)
  · have e2 : (if c' = c ∧ a' = a ∧ b' = b then x else F c' a' b') = F c' a' b' := if_neg e
    show _ = some (Value.int .i64 (if c' = c ∧ a' = a ∧ b' = b then x else F c' a' b'))
    rw [e2, World.cell?_setCell_other _ _ _ _ (by intro e3; simp only [Addr.mk.injEq] at e3; omega)]
    exact h a' b' c' ha' hb' hc'
theorem curP_set {wt : List Int} {n s k cc c a b : Nat} (hs : 2 ≤ s) (hk : k + s ≤ n) (hc : 1 ≤ cc) (hc8 : cc ≤ 8) : (if c = cc ∧ a = k ∧ b = k + s then lcK wt cc k (k + s) else curP wt n s k cc c a b) = curP wt n s k (cc + 1) c a b := by
  by_cases e : c = cc ∧ a = k ∧ b = k + s
  · rw [if_pos e, e.1, e.2.1, e.2.2]; unfold curP; rw [if_pos (by omega)]
  · rw [if_neg e]; unfold curP
    by_cases h : 1 ≤ c ∧ c ≤ 8 ∧ b ≤ n ∧ (b - a < s ∨ (b - a = s ∧ (a < k ∨ (a = k ∧ c < cc))))
    · rw [if_pos h, if_pos (by omega)]
    · rw [if_neg h, if_neg (by omega)]
theorem curP_ok {wt : List Int} {n s k cc m : Nat} (hk : k + s ≤ n) (hc : 1 ≤ cc) (hc8 : cc ≤ 8) (h1 : k < m) (h2 : m < k + s) (ho : okM cc (k + s) m = true) : curP wt n s k cc (cc - 1) m (k + s) = lcK wt (cc - 1) m (k + s) ∧ curP wt n s k cc cc k m = lcK wt cc k m := by
  unfold curP
  refine ⟨?_, by rw [if_pos (by omega)]⟩
  by_cases h : 1 ≤ cc - 1
  · rw [if_pos (by omega)]
  · unfold okM at ho
    rw [Bool.or_eq_true, decide_eq_true_eq, decide_eq_true_eq] at ho
    rw [if_neg (by omega), lcK_small (by omega)]
theorem Kp.new {S T : Nat → Prop} {a b c : World} (h : Kp S a b) (k : Kp T b c) (hT : ∀ j, T j → S j ∨ a.heap.size ≤ j) : Kp S a c :=
  ⟨k.os.trans h.os, k.tape.trans h.tape, k.output.trans h.output, Nat.le_trans h.size k.size, fun i hi hn => (k.block i (Nat.lt_of_lt_of_le hi h.size) (fun ht => by rcases hT i ht with e | e; exact hn e; omega)).trans (h.block i hi hn)⟩

/-- the costs of a chain of n steps -/
def CostR (wt : List Int) (n : Nat) (W : World) (e : Ending) (w' : World) : Prop :=
  ∃ g gb cb, e = .returned (.agg #[.slice (some ⟨gb, 0, none⟩) (n + 1) cb, .func (.func 107) #[.pointer (some ⟨g, 0, none⟩)] #[]]) ∧ TabAt w' g (allP wt n) ∧ (∀ i, i ≤ n → w'.cell? ⟨gb, i, none⟩ = some (.int .i64 (sumK wt i))) ∧ Below W.heap.size W w'
set_option maxRecDepth 100000 in
set_option maxHeartbeats 6400000 in
theorem iCosts (wt : List Int) (hw : ∀ k, 0 ≤ wt.getD k 0 ∧ wt.getD k 0 ≤ 1000) (aw : Option Addr) (capw n : Nat) (hn : n ≤ 40) (hwl : wt.length = n) (W : World) (hW : At W aw wt) :
    Calls Try.prog 51 #[.slice aw wt.length capw] W (CostR wt n W) := by
  obtain ⟨i0, hi, hz0, hz1, hz2⟩ := info_parts info64
  have HW := Lib.hid hw
  have HAT := Lib.hid hW
  have hwt2 : ∀ (x : Nat) (k : Nat), x = wt.length → k < x → ∃ b o, aw = some ⟨b, o, none⟩ := by
    intro x k h1 h2
    obtain ⟨b, o, e, _⟩ := hW.resolve_left (by intro e; rw [e] at h1; simp at h1; omega)
    exact ⟨b, o, e⟩
  clear hw hW
  rw [hwl]
  go_enter Try.func51, Try.ntmps51
  go_wp2_with fail
  obtain ⟨w4, hw4⟩ : ∃ w4, w4 = ((((W.alloc (Obj.cells #[Value.slice none 0 0, Value.nilFunc] 73)).alloc (Obj.cells Try.zeroCells133 133)).alloc (Obj.cells #[Value.int IntKind.i64 0] 2)).alloc (Obj.cells #[Value.slice (some { block := W.heap.size + 1 + 1, off := 0 }) 1 1, Value.func (Fn.func 107) #[Value.pointer (some { block := W.heap.size + 1, off := 0 })] #[]] 73)) := ⟨_, rfl⟩
  have z4 : w4.heap.size = W.heap.size + 4 := by rw [hw4]; simp
  have B4 : Below W.heap.size W w4 := by
    rw [hw4]; exact ((((Below.refl _ W).alloc (Nat.le_refl _) _).alloc (by simp) _).alloc (by simp; omega) _).alloc (by simp; omega) _
  have a0 : w4.cell? ⟨W.heap.size + 1 + 1 + 1, 0, none⟩ = some (.slice (some ⟨W.heap.size + 1 + 1, 0, none⟩) 1 1) := by rw [hw4]; simp [go_sem]
  have a1 : w4.cell? ⟨W.heap.size + 1 + 1 + 1, 1, none⟩ = some (.func (.func 107) #[.pointer (some ⟨W.heap.size + 1, 0, none⟩)] #[]) := by rw [hw4]; simp [go_sem]
  have af : w4.frozen? ⟨W.heap.size + 1 + 1 + 1, 0, none⟩ = false := by rw [hw4]; simp [go_sem]
  have T0 : ∀ i, i < 15129 → w4.cell? ⟨W.heap.size + 1, i, none⟩ = some (.int .i64 0) := by
    intro i hi
    rw [hw4]; simp [go_sem]; exact zc_at i hi
  have T1 : ∀ i, w4.frozen? ⟨W.heap.size + 1, i, none⟩ = false := by intro i; rw [hw4]; simp [go_sem]
  have rc0 : w4.cell? ⟨W.heap.size, 0, none⟩ = some (.slice none 0 0) := by rw [hw4]; simp [go_sem]
  have rc1 : w4.cell? ⟨W.heap.size, 1, none⟩ = some .nilFunc := by rw [hw4]; simp [go_sem]
  have r0 : w4.frozen? ⟨W.heap.size, 0, none⟩ = false := by rw [hw4]; simp [go_sem]
  have r1 : w4.frozen? ⟨W.heap.size, 1, none⟩ = false := by rw [hw4]; simp [go_sem]
  have O0 : Own W.heap.size w4 (W.heap.size + 1 + 1) 1 [0] := by
    rw [hw4]
    have := World.ownsRow_lit (base := W.heap.size) (e := 2) (size := 1) ((W.alloc (Obj.cells #[Value.slice none 0 0, Value.nilFunc] 73)).alloc (Obj.cells Try.zeroCells133 133)) #[Value.int IntKind.i64 0] 1 (by simp; omega) (by unfold maxLen; omega) rfl
    have e : ((W.alloc (Obj.cells #[Value.slice none 0 0, Value.nilFunc] 73)).alloc (Obj.cells Try.zeroCells133 133)).heap.size = W.heap.size + 1 + 1 := by simp
    rw [e] at this
    exact this.alloc _
  rw [← hw4]
  clear hw4
  have HO0 : Hid (Own W.heap.size w4 (W.heap.size + 1 + 1) 1 (pre wt 0)) := O0
  have HT0 := Lib.hid T0
  have HT1 := Lib.hid T1
  have HR := Lib.hid (And.intro rc0 (And.intro rc1 (And.intro r0 r1)))
  clear rc0 rc1
  have HK0 : Hid (Kp (fun k => k = W.heap.size + 1 + 1 ∨ k = W.heap.size + 1 + 1 + 1) w4 w4) := Kp.refl _ _
  have HA1 := Lib.hid a1
  clear O0 T0 T1 r0 r1
  have HA0 := Lib.hid (And.intro a0 (And.intro a1 af))
  clear a0 a1 af
  have hwt3 := Lib.hid hwt2
  clear hwt2
  go_loopw [18] (fun q wr => ∃ (k gb cb : Nat), k ≤ n ∧ q = .int .i64 k ∧ Hid (Own W.heap.size wr gb cb (pre wt k)) ∧ Hid (gb = W.heap.size + 1 + 1 ∨ w4.heap.size ≤ gb) ∧ Hid (wr.cell? ⟨W.heap.size + 1 + 1 + 1, 0, none⟩ = some (.slice (some ⟨gb, 0, none⟩) (k + 1) cb) ∧ wr.cell? ⟨W.heap.size + 1 + 1 + 1, 1, none⟩ = some (.func (.func 107) #[.pointer (some ⟨W.heap.size + 1, 0, none⟩)] #[]) ∧ wr.frozen? ⟨W.heap.size + 1 + 1 + 1, 0, none⟩ = false) ∧ Hid (Kp (fun k => k = W.heap.size + 1 + 1 ∨ k = W.heap.size + 1 + 1 + 1) w4 wr)) (fun q _ => n - (intOf q).toNat)
  case atStart => exact ⟨0, W.heap.size + 1 + 1, 1, Nat.zero_le _, rfl, HO0.out, .inl rfl, HA0.out, HK0.out⟩
  case round =>
    obtain ⟨k, gb, cb, hk, rfl, HO, HG, HA, HK⟩ := hrel
    clear HO0 HA0 HK0
    by_cases hlt : k < n
    · have hii : (k : Int) < (n : Int) := by omega
      obtain ⟨c0, c1, cf⟩ := id HA.out
      have hgb := HG.out
      have hzr := HK.out.size
      have ob := HO.out.base
      have HBW := Lib.hid (B4.trans (HK.out.below (L := W.heap.size) (by omega) (fun b e => by omega)))
      obtain ⟨bw, ow, rfl, hbw, hcw⟩ := (HAT.out.below HBW.out (Nat.le_refl _)).resolve_left (by intro e; rw [e] at hwl; simp at hwl; omega)
      have f0 := hcw k (by omega)
      have p0 := HO.out.cellAt k (by rw [pre_len]; omega)
      rw [pre_at (Nat.le_refl _)] at p0
      have HS : Hid (sumK wt k + wt.getD k 0 = sumK wt (k + 1)) := rfl
      have hb1 := sumK_mono HW.out 0 k
      have hb2 := HW.out k
      rw [Nat.zero_add, show sumK wt 0 = 0 from rfl] at hb1
      have hki : (k : Int) < (k : Int) + 1 := by omega
      clear hcw hwt3
      generalize wt.getD k 0 = x at *
      generalize sumK wt k = y at *
      have e1 : IntKind.i64.wrap (y + x) = y + x := IntWalk.i64_in _ (by omega)
      have HX : Hid (pre wt k ++ [y + x] = pre wt (k + 1)) := by show _ = _; rw [HS.out]; exact pre_succ wt k
      have ho2 : wr.ownsRow W.heap.size 2 1 (.slice (some ⟨gb, 0, none⟩) (k + 1) cb) (k + 1) ((pre wt k).map (Value.int .i64)) := by have := HO.out; unfold Own at this; rw [pre_len] at this; exact this
      have hal : W.heap.size + 1 + 1 + 1 < wr.heap.size := by omega
      have hng : ¬ (W.heap.size + 1 + 1 + 1 = gb) := by omega
      clear hb1 hb2 HS HA HO HG
      go_wp2_with fail
      go_region_law (first
        | ((refine step_append_lies _ (by rfl) _ _ _ (by rfl) W.heap.size 2 i0 _ 1 8 Try.underlying22 hi hz0 hz1 hz2 rfl (by omega) (.slice (some ⟨gb, 0, none⟩) (k + 1) cb) (k + 1) ((pre wt k).map (Value.int .i64)) (by rfl) ((ho2.alloc _).drew) ⟨wr.heap.size, 0, none⟩ 1 1 [.int .i64 (y + x)] (by rfl) (by rfl) (World.news_of_block (cs := #[.int .i64 (y + x)]) (t := 2) (fr := (0, 0)) (heap_alloc_new wr _)) (by simp [Value.oneCell']) (by omega) (by unfold maxLen; omega) (by omega) (by simp; omega) (wr.heap.size + 1) (by simp) ?_; intro gg cc w5 hown5 hgrow hat hlt5;
            have cf5 : w5.frozen? ⟨W.heap.size + 1 + 1 + 1, 0, none⟩ = false := ((Kp.of_grown hgrow).fz (b := W.heap.size + 1 + 1 + 1) (o := 0) (by simp; omega) hng).trans ((((Below.refl wr.heap.size wr).alloc (Nat.le_refl _) _).drew.frozen (p := ⟨W.heap.size + 1 + 1 + 1, 0, none⟩) hal).trans cf);
            have c05 : w5.cell? ⟨W.heap.size + 1 + 1 + 1, 0, none⟩ = some _ := (Kp.of_grown hgrow).cell ((((Below.refl wr.heap.size wr).alloc (Nat.le_refl _) _).drew.cell (p := ⟨W.heap.size + 1 + 1 + 1, 0, none⟩) hal).trans c0) hng;
            have c15 : w5.cell? ⟨W.heap.size + 1 + 1 + 1, 1, none⟩ = some _ := (Kp.of_grown hgrow).cell ((((Below.refl wr.heap.size wr).alloc (Nat.le_refl _) _).drew.cell (p := ⟨W.heap.size + 1 + 1 + 1, 1, none⟩) hal).trans c1) hng
            )))
      all_goals
        have hO5 : Own W.heap.size w5 gg cc (pre wt (k + 1)) := by unfold Own; rw [pre_len, ← HX.out, List.map_append]; exact hown5
        have hgg : gg = gb ∨ wr.heap.size + 1 ≤ gg := by
          rcases hat with e | e
          · left; simp [Value.ownBlock] at e; exact e.symm
          · right; omega
        have hK5 : Kp (fun k => k = W.heap.size + 1 + 1 ∨ k = W.heap.size + 1 + 1 + 1) w4 (w5.setCell ⟨W.heap.size + 1 + 1 + 1, 0, none⟩ (.slice (some ⟨gg, 0, none⟩) (k + 1 + 1) cc)) := by
          have q1 : Kp (fun _ => False) wr (wr.alloc (.cells #[.int .i64 (y + x)] 2)).drew := Kp.of_below ((Below.refl wr.heap.size wr).alloc (Nat.le_refl _) _).drew
          have q2 : Kp (fun j => j = gb) wr w5 := (q1.mono (fun _ h => h.elim)).trans (Kp.of_grown hgrow)
          exact ((HK.out.new q2 (fun j hj => by omega)).new (Kp.set (S := fun j => j = W.heap.size + 1 + 1 + 1) rfl) (fun j hj => .inl (.inr hj)))
        have HO5 := Lib.hid (hO5.setOther (p := ⟨W.heap.size + 1 + 1 + 1, 0, none⟩) (show W.heap.size + 1 + 1 + 1 ≠ gg by omega) (.slice (some ⟨gg, 0, none⟩) (k + 1 + 1) cc))
        have HG5 : Hid (gg = W.heap.size + 1 + 1 ∨ w4.heap.size ≤ gg) := by show _ ∨ _; omega
        clear hown5 hgrow hat ho2 hO5
        go_wp2_with fail
        go_roundw
        case rel => exact ⟨k + 1, gg, cc, by omega, by go_num, HO5.out, HG5.out, ⟨by simp [go_sem, c05], by simp [go_sem, c15], by simp [cf5]⟩, hK5⟩
        case measure => simp [intOf]; omega
    · have hii : ¬ (k : Int) < (n : Int) := by omega
      obtain rfl : k = n := by omega
      have HBW := Lib.hid (B4.trans (HK.out.below (L := W.heap.size) (by omega) (fun b e => by omega)))
      have hzb := HK.out.size
      have HT2 : Hid (TabAt wr (W.heap.size + 1) (curP wt k 2 0 1)) := by
        refine TabAt.to (F := fun _ _ _ => 0) (fun a b c ha hb hc => HK.out.cell (HT0.out _ (by omega)) (by omega)) (fun c a b ha hb hc => curP_0.symm)
      have HT3 : Hid (∀ i, wr.frozen? ⟨W.heap.size + 1, i, none⟩ = false) := fun i => (HK.out.fz (by omega) (by omega)).trans (HT1.out i)
      have HR3 : Hid (wr.cell? ⟨W.heap.size, 0, none⟩ = some (.slice none 0 0) ∧ wr.cell? ⟨W.heap.size, 1, none⟩ = some .nilFunc ∧ wr.frozen? ⟨W.heap.size, 0, none⟩ = false ∧ wr.frozen? ⟨W.heap.size, 1, none⟩ = false) := ⟨HK.out.cell HR.out.1 (by omega), HK.out.cell HR.out.2.1 (by omega), (HK.out.fz (by omega) (by omega)).trans HR.out.2.2.1, (HK.out.fz (by omega) (by omega)).trans HR.out.2.2.2⟩
      clear HK HT0 HT1 HR
      have hgb := HG.out
      have hob := HO.out.base
      have HPB : Hid (∀ i, i ≤ k → wr.cell? ⟨gb, i, none⟩ = some (.int .i64 (sumK wt i))) := fun i hi => by
        have := HO.out.cellAt i (by rw [pre_len]; omega)
        rw [pre_at hi] at this; exact this
      clear HO HG
      go_wp2_with fail
      obtain ⟨wb, hwb⟩ : ∃ wb : World, wb = wr := ⟨_, rfl⟩
      rw [← hwb] at HA HBW hzb HT2 HT3 HR3 hob HPB ⊢
      clear hwb
      have HK0 : Hid (Kp (fun j => j = W.heap.size + 1) wb wb) := Kp.refl _ _
      go_loopw [8] (fun q wi => ∃ s : Nat, 2 ≤ s ∧ q = .int .i64 s ∧ Hid (TabAt wi (W.heap.size + 1) (curP wt k s 0 1)) ∧ Hid (∀ i, wi.frozen? ⟨W.heap.size + 1, i, none⟩ = false) ∧ Hid (Kp (fun j => j = W.heap.size + 1) wb wi)) (fun q _ => k + 1 - (intOf q).toNat)
      case atStart => exact ⟨2, Nat.le_refl _, rfl, HT2.out, HT3.out, HK0.out⟩
      case round =>
        obtain ⟨s, hs, rfl, HT, HF, HK⟩ := hrel
        clear HT2 HT3 HK0
        by_cases hsn : s ≤ k
        · have hsi : (s : Int) ≤ (k : Int) := by omega
          obtain ⟨d, hd⟩ : ∃ d : Nat, d = k - s + 1 := ⟨_, rfl⟩
          have e1 : IntKind.i64.wrap ((k : Int) - (s : Int)) = (d : Int) - 1 := by rw [IntWalk.i64_in _ (by omega)]; omega
          have e2 : IntKind.i64.wrap ((d : Int) - 1 + 1) = (d : Int) := by rw [IntWalk.i64_in _ (by omega)]; omega
          have HD := Lib.hid hd
          have hdk : d + s = k + 1 := by omega
          clear hd
          go_wp2_with fail
          go_loopw [45] (fun q wi => ∃ a : Nat, a ≤ d ∧ q = .int .i64 a ∧ Hid (TabAt wi (W.heap.size + 1) (curP wt k s a 1)) ∧ Hid (∀ i, wi.frozen? ⟨W.heap.size + 1, i, none⟩ = false) ∧ Hid (Kp (fun j => j = W.heap.size + 1) wb wi)) (fun q _ => d - (intOf q).toNat)
          case atStart => exact ⟨0, Nat.zero_le _, rfl, HT.out, HF.out, HK.out⟩
          case round =>
            obtain ⟨a, ha, rfl, HTa, HFa, HKa⟩ := hrel
            clear HT HF HK
            by_cases had : a < d
            · have hai : (a : Int) < (d : Int) := by omega
              go_wp2_with fail
              go_loopw [10] (fun q wi => ∃ c : Nat, 1 ≤ c ∧ c ≤ 9 ∧ q = .int .i64 c ∧ Hid (TabAt wi (W.heap.size + 1) (curP wt k s a c)) ∧ Hid (∀ i, wi.frozen? ⟨W.heap.size + 1, i, none⟩ = false) ∧ Hid (Kp (fun j => j = W.heap.size + 1) wb wi)) (fun q _ => 9 - (intOf q).toNat)
              case atStart => exact ⟨1, by omega, by omega, rfl, HTa.out, HFa.out, HKa.out⟩
              case round =>
                obtain ⟨c, hc, hc9, rfl, HTc, HFc, HKc⟩ := hrel
                clear HTa HFa HKa
                by_cases hc8 : c ≤ 8
                · have hci : (c : Int) ≤ 8 := by omega
                  obtain ⟨b, hb⟩ : ∃ b : Nat, b = a + s := ⟨_, rfl⟩
                  have hbk : b ≤ k := by omega
                  have e3 : IntKind.i64.wrap ((a : Int) + (s : Int)) = (b : Int) := by rw [IntWalk.i64_in _ (by omega)]; omega
                  have ha9 : (a : Int) < 41 := by omega
                  have hb9 : (b : Int) < 41 := by omega
                  have hc9 : (c : Int) < 9 := by omega
                  have HKb := Lib.hid (HBW.out.trans (HKc.out.below (L := W.heap.size) (by omega) (fun b e => by omega)))
                  obtain ⟨q0, q1, qf⟩ := id HA.out
                  have a0 := HKc.out.cell q0 (by omega)
                  have a1 := HKc.out.cell q1 (by omega)
                  have HSP := Lib.hid (iSplit wt HW.out (W.heap.size + 1) gb cb k (curP wt k s a c) c a b hn hbk (by omega) hc hc8 wr.drew HTc.out (fun i hi => HKc.out.cell (HPB.out i hi) (by omega)) (fun m h1 h2 h3 => by subst hb; exact curP_ok hbk hc hc8 h1 h2 h3))
                  have HSQ := Lib.hid (HSP.out.mono (fun e w' h => And.intro h.1 ((Below.refl wr.heap.size wr).drew.trans h.2)))
                  clear HSP
                  have HLC := Lib.hid (lcK_eq (w := wt) (c := c) (a := a) (b := b) (by omega))
                  have x0 := HTc.out a b c (by omega) (by omega) (by omega)
                  have xf := HFc.out (a * 369 + b * 9 + c)
                  have hzc := HKc.out.size
                  have HBS := Lib.hid hb
                  clear hb
                  go_wp2_with fail
                  go_region_with (go_at_call 56; refine HSQ.out.mono ?_; rintro e w' ⟨rfl, hb5⟩; have y0 := (hb5.cell (p := ⟨W.heap.size + 1, a * 369 + b * 9 + c, none⟩) (show W.heap.size + 1 < wr.heap.size by omega)).trans x0; have yf := (hb5.frozen (p := ⟨W.heap.size + 1, a * 369 + b * 9 + c, none⟩) (show W.heap.size + 1 < wr.heap.size by omega)).trans xf)
                  all_goals
                    rw [← HLC.out]
                    have hT6 : TabAt (w'.setCell ⟨W.heap.size + 1, a * 369 + b * 9 + c, none⟩ (.int .i64 (lcK wt c a b))) (W.heap.size + 1) (curP wt k s a (c + 1)) :=
                      ((HTc.out.below hb5 (by omega)).set (lcK wt c a b) (by omega) (by omega) hc8).to (fun c' a' b' _ _ _ => by rw [HBS.out]; exact curP_set hs (by omega) hc hc8)
                    have hF6 : ∀ i, (w'.setCell ⟨W.heap.size + 1, a * 369 + b * 9 + c, none⟩ (.int .i64 (lcK wt c a b))).frozen? ⟨W.heap.size + 1, i, none⟩ = false := fun i => by
                      rw [World.frozen?_setCell]
                      exact (hb5.frozen (p := ⟨W.heap.size + 1, i, none⟩) (show W.heap.size + 1 < wr.heap.size by omega)).trans (HFc.out i)
                    have hK6 : Kp (fun j => j = W.heap.size + 1) wb (w'.setCell ⟨W.heap.size + 1, a * 369 + b * 9 + c, none⟩ (.int .i64 (lcK wt c a b))) := (HKc.out.trans (Kp.of_below hb5)).trans (Kp.set rfl)
                    have HT6 := Lib.hid hT6
                    have HF6 := Lib.hid hF6
                    have HK6 := Lib.hid hK6
                    clear hT6 hF6 hK6 y0 yf hb5 HLC HBS HSQ
                    go_wp2_with fail
                    go_roundw
                    case rel => exact ⟨c + 1, by omega, by omega, by go_num, HT6.out, HF6.out, HK6.out⟩
                    case measure => simp [intOf]; omega
                · have hci : ¬ (c : Int) ≤ 8 := by omega
                  obtain rfl : c = 9 := by omega
                  go_wp2_with fail
                  go_roundw
                  case rel => exact ⟨a + 1, by omega, by go_num, HTc.out.to (fun c a b ha hb hc => curP_k hc), HFc.out, HKc.out⟩
                  case measure => simp [intOf]; omega
            · have hai : ¬ (a : Int) < (d : Int) := by omega
              go_wp2_with fail
              go_roundw
              case rel => exact ⟨s + 1, by omega, by go_num, HTa.out.to (fun c a b ha hb hc => curP_s (by omega) (by omega)), HFa.out, HKa.out⟩
              case measure => simp [intOf]; omega
        · have hsi : ¬ (s : Int) ≤ (k : Int) := by omega
          obtain ⟨q0, q1, qf⟩ := id HA.out
          have a0 := HK.out.cell q0 (by omega)
          have a1 := HK.out.cell q1 (by omega)
          have r0 := HK.out.cell HR3.out.1 (by omega)
          have r1 := HK.out.cell HR3.out.2.1 (by omega)
          have f0 := (HK.out.fz (b := W.heap.size) (o := 0) (by omega) (by omega)).trans HR3.out.2.2.1
          have f1 := (HK.out.fz (b := W.heap.size) (o := 1) (by omega) (by omega)).trans HR3.out.2.2.2
          have HT9 := Lib.hid (HT.out.to (fun c a b _ _ _ => curP_all (by omega)))
          have HP9 := Lib.hid (fun i hi => HK.out.cell (HPB.out i hi) (by omega))
          have hzw := HK.out.size
          have HB9 := Lib.hid (HBW.out.trans (HK.out.below (L := W.heap.size) (by omega) (fun b e => by omega)))
          clear HT HK HF
          go_wp2_with fail
          have K6 : Kp (fun j => j = W.heap.size) wr ((wr.setCell ⟨W.heap.size, 0, none⟩ (.slice (some ⟨gb, 0, none⟩) (k + 1) cb)).setCell ⟨W.heap.size, 1, none⟩ (.func (.func 107) #[.pointer (some ⟨W.heap.size + 1, 0, none⟩)] #[])) := (Kp.set (S := fun j => j = W.heap.size) (p := ⟨W.heap.size, 0, none⟩) rfl).trans (Kp.set (S := fun j => j = W.heap.size) (p := ⟨W.heap.size, 1, none⟩) rfl)
          refine bodyPost_ret (v := .agg #[.slice (some ⟨gb, 0, none⟩) (k + 1) cb, .func (.func 107) #[.pointer (some ⟨W.heap.size + 1, 0, none⟩)] #[]]) (by simp [results, Try.results51, go_sem, r0, r1]) rfl ⟨W.heap.size + 1, gb, cb, rfl, fun a b c h1 h2 h3 => K6.cell (HT9.out a b c h1 h2 h3) (by omega), fun i hi => K6.cell (HP9.out i hi) (by omega), HB9.out.trans (K6.below (L := W.heap.size) (by omega) (fun b e => by omega))⟩

end Go.Proofs.Ytleebjjikpmgoaa
