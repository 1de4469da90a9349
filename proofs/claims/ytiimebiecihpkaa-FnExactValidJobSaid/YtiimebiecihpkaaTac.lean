/- Tapes: copies, as the laws make them. -/
import Derived.Test.YtiimebiecihpkaaTas
namespace Go.Proofs.Ytiimebiecihpkaa
open Go.RowKit
set_option linter.unusedVariables false

/- copies -/
set_option maxRecDepth 100000 in
theorem infoInstr : (Try.prog.info? 173).map (fun i => (i.zero, i.size, i.bytes)) = some (some (.agg #[.int .i64 0, .int .i64 0, .int .i64 0, .int .i64 0]), 4, 32) := by kernel_rfl
set_option maxRecDepth 100000 in
theorem infoGuard : (Try.prog.info? 226).map (fun i => (i.zero, i.size, i.bytes)) = some (some (.agg #[.int .i64 0, .bool false]), 2, 16) := by kernel_rfl
abbrev inst (x : In4) : Value := .agg #[.int .i64 x.op, .int .i64 x.a, .int .i64 x.b, .int .i64 x.num]
abbrev gdv (x : Gd) : Value := .agg #[.int .i64 x.reg, .bool x.zero]

set_option maxRecDepth 100000 in
set_option maxHeartbeats 1600000 in
theorem toInstr (x : In4) (w : World) : Calls Try.prog 185 #[inst x] w fun e w' => e = .returned (inst x) ∧ Below w.heap.size w w' := by
  unfold inst
  have B1 : ∀ o, Below w.heap.size w (w.alloc o) := fun o => (Below.refl _ _).alloc (Nat.le_refl _) o
  obtain ⟨o, a, b, n⟩ := x
  go_enter Try.func185, Try.ntmps185
  go_wp2_with fail
  refine bodyPost_ret (v := .agg #[.int .i64 o, .int .i64 a, .int .i64 b, .int .i64 n]) (by simp [results, Try.results185, go_sem]) rfl ⟨rfl, ?_⟩
  exact ((B1 _).alloc (by simp) _).alloc (by simp; omega) _

set_option maxRecDepth 100000 in
set_option maxHeartbeats 1600000 in
theorem toGuard (x : Gd) (w : World) : Calls Try.prog 186 #[gdv x] w fun e w' => e = .returned (gdv x) ∧ Below w.heap.size w w' := by
  unfold gdv
  have B1 : ∀ o, Below w.heap.size w (w.alloc o) := fun o => (Below.refl _ _).alloc (Nat.le_refl _) o
  obtain ⟨o, a⟩ := x
  go_enter Try.func186, Try.ntmps186
  go_wp2_with fail
  refine bodyPost_ret (v := .agg #[.int .i64 o, .bool a]) (by simp [results, Try.results186, go_sem]) rfl ⟨rfl, ?_⟩
  exact ((B1 _).alloc (by simp) _).alloc (by simp; omega) _

/-- The first k instructions of a row are copied. -/
def HalfC (l : List In4) (xs : List Value) (k : Nat) : Prop :=
  ∀ i, i < k → xs[i * 4]? = some (.int .i64 (l.getD i no4).op) ∧ xs[i * 4 + 1]? = some (.int .i64 (l.getD i no4).a) ∧ xs[i * 4 + 2]? = some (.int .i64 (l.getD i no4).b) ∧ xs[i * 4 + 3]? = some (.int .i64 (l.getD i no4).num)
def put4 (xs : List Value) (i : Nat) (x : In4) : List Value :=
  (((xs.set (i * 4) (.int .i64 x.op)).set (i * 4 + 1) (.int .i64 x.a)).set (i * 4 + 2) (.int .i64 x.b)).set (i * 4 + 3) (.int .i64 x.num)
theorem put4_old {xs : List Value} {i : Nat} {x : In4} {j : Nat} (h : j < i * 4) : (put4 xs i x)[j]? = xs[j]? := by
  unfold put4
  iterate 4 rw [List.getElem?_set_ne (by omega)]
theorem put4_new {xs : List Value} {i : Nat} {x : In4} (h : i * 4 + 3 < xs.length) : (put4 xs i x)[i * 4]? = some (.int .i64 x.op) ∧ (put4 xs i x)[i * 4 + 1]? = some (.int .i64 x.a) ∧
    (put4 xs i x)[i * 4 + 2]? = some (.int .i64 x.b) ∧ (put4 xs i x)[i * 4 + 3]? = some (.int .i64 x.num) := by
  unfold put4
  refine ⟨?_, ?_, ?_, ?_⟩ <;> simp (disch := omega) [List.getElem?_set] <;> omega
theorem halfC_step {l : List In4} {xs : List Value} {k : Nat} (H : HalfC l xs k) (hlen : k * 4 + 3 < xs.length) : HalfC l (put4 xs k (l.getD k no4)) (k + 1) := by
  intro i hi
  by_cases hik : i = k
  · subst hik; exact put4_new hlen
  · obtain ⟨h0, h1, h2, h3⟩ := H i (by omega)
    exact ⟨(put4_old (by omega)).trans h0, (put4_old (by omega)).trans h1, (put4_old (by omega)).trans h2, (put4_old (by omega)).trans h3⟩
def HalfG (l : List Gd) (xs : List Value) (k : Nat) : Prop :=
  ∀ i, i < k → xs[i * 2]? = some (.int .i64 (l.getD i noG).reg) ∧ xs[i * 2 + 1]? = some (.bool (l.getD i noG).zero)
def put2 (xs : List Value) (i : Nat) (x : Gd) : List Value := (xs.set (i * 2) (.int .i64 x.reg)).set (i * 2 + 1) (.bool x.zero)
theorem put2_old {xs : List Value} {i : Nat} {x : Gd} {j : Nat} (h : j < i * 2) : (put2 xs i x)[j]? = xs[j]? := by
  unfold put2
  iterate 2 rw [List.getElem?_set_ne (by omega)]
theorem put2_new {xs : List Value} {i : Nat} {x : Gd} (h : i * 2 + 1 < xs.length) : (put2 xs i x)[i * 2]? = some (.int .i64 x.reg) ∧ (put2 xs i x)[i * 2 + 1]? = some (.bool x.zero) := by
  unfold put2
  refine ⟨?_, ?_⟩ <;> simp (disch := omega) [List.getElem?_set] <;> omega
theorem halfG_step {l : List Gd} {xs : List Value} {k : Nat} (H : HalfG l xs k) (hlen : k * 2 + 1 < xs.length) : HalfG l (put2 xs k (l.getD k noG)) (k + 1) := by
  intro i hi
  by_cases hik : i = k
  · subst hik; exact put2_new hlen
  · obtain ⟨h0, h1⟩ := H i (by omega)
    exact ⟨(put2_old (by omega)).trans h0, (put2_old (by omega)).trans h1⟩

/-- The call answers a copy in a block of its own that may be written. -/
def FreshC (w : World) (l : List In4) (e : Ending) (w' : World) : Prop :=
  ∃ g, e = .returned (.slice (some ⟨g, 0, none⟩) l.length l.length) ∧ Cat w' w.heap.size w'.heap.size l (some ⟨g, 0, none⟩) ∧ Wr w' w.heap.size w'.heap.size (l.length * 4) g ∧ Below w.heap.size w w'
def FreshGd (w : World) (l : List Gd) (e : Ending) (w' : World) : Prop :=
  ∃ g, e = .returned (.slice (some ⟨g, 0, none⟩) l.length l.length) ∧ Gat w' w.heap.size w'.heap.size l (some ⟨g, 0, none⟩) ∧ Wr w' w.heap.size w'.heap.size (l.length * 2) g ∧ Below w.heap.size w w'

set_option maxRecDepth 100000 in
set_option maxHeartbeats 1600000 in
theorem toInstrS (l : List In4) (a : Option Addr) (cap : Nat) (w : World) (hP : Cat w 0 w.heap.size l a) (hs : l.length ≤ 1048576) :
    Calls Try.prog 127 #[.slice a l.length cap] w (FreshC w l) := by
  obtain ⟨i0, hi, hz0, hz1, hz2⟩ := info_parts infoInstr
  have HR := Lib.hid (fun i => hP.ri i)
  go_enter Try.func127, Try.ntmps127
  go_wp2_with (refine wpList_make_full _ rfl _ _ 82 rfl w.heap.size 173 i0 _ 4 Try.underlying82 hi hz0 hz1 .i64 .i64 _ _ l.length rfl rfl rfl rfl ?c2 ?c3 (Nat.le_refl _) ?_)
  case c2 => rw [hz2]; omega
  case c3 => unfold maxLen; omega
  intro w1 ho1 hg1
  have hb1 := (Below.refl w.heap.size w).grown hg1 (Nat.le_refl _) (by intro k hk; cases hk)
  have hg : w.heap.size < w1.heap.size := (World.ownsRow.lt ho1 _ rfl).2
  obtain ⟨xs0, ho2⟩ : ∃ xs, w1.ownsRow w.heap.size 173 4 (.slice (some ⟨w.heap.size, 0, none⟩) l.length l.length) l.length xs := ⟨_, ho1⟩
  clear ho1 hg1 hi hz0 hz1 hz2
  go_wp2
  go_loopw [4] (fun i wr => ∃ (k : Nat) (xs : List Value), k ≤ l.length ∧ i = .int .i64 k ∧ wr.ownsRow w.heap.size 173 4 (.slice (some ⟨w.heap.size, 0, none⟩) l.length l.length) l.length xs ∧ Hid (HalfC l xs k) ∧ w.heap.size < wr.heap.size ∧ Below w.heap.size w wr) (fun i _ => l.length - (intOf i).toNat)
  case atStart => exact ⟨0, xs0, Nat.zero_le _, rfl, ho2, (fun i hi => by omega), hg, hb1⟩
  case round =>
    obtain ⟨k, xs, hk, rfl, ho, HH, hgr, hb⟩ := hrel
    clear ho2 hb1 hg
    by_cases hlt : k < l.length
    · obtain ⟨b, off, rfl, hbB, hall⟩ := ((hP.below hb).resolve_left (by intro e; rw [e] at hlt; simp at hlt))
      obtain ⟨hr, c0, c1, c2, c3⟩ := hall k hlt
      have HC := Lib.hid (toInstr (l.getD k no4) wr)
      have hi : (k : Int) < (l.length : Int) := by omega
      have HS : Hid (k * 4 + 3 < xs.length → HalfC l (put4 xs k (l.getD k no4)) (k + 1)) := halfC_step HH.out
      clear hall hP HH hr
      generalize l.getD k no4 = x at c0 c1 c2 c3 HC HS
      go_wp2_with fail
      refine (HC.out).mono ?_; rintro e w' ⟨rfl, hb2⟩
      clear HC c0 c1 c2 c3
      have ho' := World.ownsRow.kept ho (below_grownBy hb2) (.inr (by simp [Value.ownBlock]))
      have hxl : xs.length = l.length * 4 := ho.1
      have s0 := ho'.cellAt (k * 4) (by omega)
      have s1 := ho'.cellAt (k * 4 + 1) (by omega)
      have s2 := ho'.cellAt (k * 4 + 2) (by omega)
      have s3 := ho'.cellAt (k * 4 + 3) (by omega)
      rw [List.getElem?_eq_getElem (by omega)] at s0 s1 s2 s3
      have t0 := ho'.frozenAt (k * 4)
      have t1 := ho'.frozenAt (k * 4 + 1)
      have t2 := ho'.frozenAt (k * 4 + 2)
      have t3 := ho'.frozenAt (k * 4 + 3)
      generalize xs[k * 4]'(by omega) = v0 at s0
      generalize xs[k * 4 + 1]'(by omega) = v1 at s1
      generalize xs[k * 4 + 2]'(by omega) = v2 at s2
      generalize xs[k * 4 + 3]'(by omega) = v3 at s3
      have HO := Lib.hid ho'
      have HX := Lib.hid hxl
      have hw2 := hb.trans (hb2.mono hb.size)
      have hsz := hb2.size
      clear ho ho' hxl hb
      go_wp2_with fail
      have hset : ((((w'.setCell ⟨w.heap.size, k * 4, none⟩ (.int .i64 x.op)).setCell ⟨w.heap.size, k * 4 + 1, none⟩ (.int .i64 x.a)).setCell ⟨w.heap.size, k * 4 + 2, none⟩ (.int .i64 x.b)).setCell ⟨w.heap.size, k * 4 + 3, none⟩ (.int .i64 x.num)).ownsRow w.heap.size 173 4 (.slice (some ⟨w.heap.size, 0, none⟩) l.length l.length) l.length (put4 xs k x) :=
        (World.ownsRow.stored (World.ownsRow.stored (World.ownsRow.stored (World.ownsRow.stored HO.out (k * 4) _).1 (k * 4 + 1) _).1 (k * 4 + 2) _).1 (k * 4 + 3) _).1
      refine ⟨⟨k + 1, put4 xs k x, by omega, by go_num, hset, HS.out (by rw [HX.out]; omega), by simp; omega, ?_⟩, by simp [intOf]; omega⟩
      exact (((hw2.setCell (Nat.le_refl _) _).setCell (Nat.le_refl _) _).setCell (Nat.le_refl _) _).setCell (Nat.le_refl _) _
    · have hkk : k = l.length := by omega
      subst hkk
      have hi : ¬ ((l.length : Int) < (l.length : Int)) := by omega
      have HO := Lib.hid ho
      clear ho hP
      go_wp2_with fail
      go_ret
      refine ⟨_, rfl, .inr ⟨_, 0, rfl, ⟨Nat.le_refl _, hgr⟩, fun i hi => ?_⟩, ⟨⟨Nat.le_refl _, hgr⟩, fun o => HO.out.frozenAt o, fun o ho => ?_⟩, hb⟩
      · obtain ⟨h0, h1, h2, h3⟩ := HH.out i hi
        rw [Nat.zero_add]
        exact ⟨HR.out i, (HO.out.cellAt _ (by omega)).trans h0, (HO.out.cellAt _ (by omega)).trans h1, (HO.out.cellAt _ (by omega)).trans h2, (HO.out.cellAt _ (by omega)).trans h3⟩
      · have hxl : xs.length = l.length * 4 := HO.out.1
        exact ⟨_, (HO.out.cellAt o (by omega)).trans (List.getElem?_eq_getElem (by omega))⟩

theorem Gat.ri {w : World} {L B : Nat} {l : List Gd} {a : Option Addr} (h : Gat w L B l a) (k : Nat) : I64 (l.getD k noG).reg := by
  by_cases hk : k < l.length
  · rcases h with rfl | ⟨_, _, _, _, h⟩
    · simp at hk
    · exact (h k hk).1
  · rw [List.getD_eq_getElem?_getD, List.getElem?_eq_none (by omega)]; exact ⟨by decide, by decide⟩

set_option maxRecDepth 100000 in
set_option maxHeartbeats 1600000 in
theorem toGuardS (l : List Gd) (a : Option Addr) (cap : Nat) (w : World) (hP : Gat w 0 w.heap.size l a) (hs : l.length ≤ 1048576) :
    Calls Try.prog 128 #[.slice a l.length cap] w (FreshGd w l) := by
  obtain ⟨i0, hi, hz0, hz1, hz2⟩ := info_parts infoGuard
  have HR := Lib.hid (fun i => hP.ri i)
  go_enter Try.func128, Try.ntmps128
  go_wp2_with (refine wpList_make_full _ rfl _ _ 83 rfl w.heap.size 226 i0 _ 2 Try.underlying83 hi hz0 hz1 .i64 .i64 _ _ l.length rfl rfl rfl rfl ?c2 ?c3 (Nat.le_refl _) ?_)
  case c2 => rw [hz2]; omega
  case c3 => unfold maxLen; omega
  intro w1 ho1 hg1
  have hb1 := (Below.refl w.heap.size w).grown hg1 (Nat.le_refl _) (by intro k hk; cases hk)
  have hg : w.heap.size < w1.heap.size := (World.ownsRow.lt ho1 _ rfl).2
  obtain ⟨xs0, ho2⟩ : ∃ xs, w1.ownsRow w.heap.size 226 2 (.slice (some ⟨w.heap.size, 0, none⟩) l.length l.length) l.length xs := ⟨_, ho1⟩
  clear ho1 hg1 hi hz0 hz1 hz2
  go_wp2
  go_loopw [4] (fun i wr => ∃ (k : Nat) (xs : List Value), k ≤ l.length ∧ i = .int .i64 k ∧ wr.ownsRow w.heap.size 226 2 (.slice (some ⟨w.heap.size, 0, none⟩) l.length l.length) l.length xs ∧ Hid (HalfG l xs k) ∧ w.heap.size < wr.heap.size ∧ Below w.heap.size w wr) (fun i _ => l.length - (intOf i).toNat)
  case atStart => exact ⟨0, xs0, Nat.zero_le _, rfl, ho2, (fun i hi => by omega), hg, hb1⟩
  case round =>
    obtain ⟨k, xs, hk, rfl, ho, HH, hgr, hb⟩ := hrel
    clear ho2 hb1 hg
    by_cases hlt : k < l.length
    · obtain ⟨b, off, rfl, hbB, hall⟩ := ((hP.below hb).resolve_left (by intro e; rw [e] at hlt; simp at hlt))
      obtain ⟨hr, c0, c1⟩ := hall k hlt
      have HC := Lib.hid (toGuard (l.getD k noG) wr)
      have hi : (k : Int) < (l.length : Int) := by omega
      have HS : Hid (k * 2 + 1 < xs.length → HalfG l (put2 xs k (l.getD k noG)) (k + 1)) := halfG_step HH.out
      clear hall hP HH hr
      generalize l.getD k noG = x at c0 c1 HC HS
      go_wp2_with fail
      refine (HC.out).mono ?_; rintro e w' ⟨rfl, hb2⟩
      clear HC c0 c1
      have ho' := World.ownsRow.kept ho (below_grownBy hb2) (.inr (by simp [Value.ownBlock]))
      have hxl : xs.length = l.length * 2 := ho.1
      have s0 := ho'.cellAt (k * 2) (by omega)
      have s1 := ho'.cellAt (k * 2 + 1) (by omega)
      rw [List.getElem?_eq_getElem (by omega)] at s0 s1
      have t0 := ho'.frozenAt (k * 2)
      have t1 := ho'.frozenAt (k * 2 + 1)
      generalize xs[k * 2]'(by omega) = v0 at s0
      generalize xs[k * 2 + 1]'(by omega) = v1 at s1
      have HO := Lib.hid ho'
      have HX := Lib.hid hxl
      have hw2 := hb.trans (hb2.mono hb.size)
      have hsz := hb2.size
      clear ho ho' hxl hb
      go_wp2_with fail
      have hset : ((w'.setCell ⟨w.heap.size, k * 2, none⟩ (.int .i64 x.reg)).setCell ⟨w.heap.size, k * 2 + 1, none⟩ (.bool x.zero)).ownsRow w.heap.size 226 2 (.slice (some ⟨w.heap.size, 0, none⟩) l.length l.length) l.length (put2 xs k x) :=
        (World.ownsRow.stored (World.ownsRow.stored HO.out (k * 2) _).1 (k * 2 + 1) _).1
      refine ⟨⟨k + 1, put2 xs k x, by omega, by go_num, hset, HS.out (by rw [HX.out]; omega), by simp; omega, ?_⟩, by simp [intOf]; omega⟩
      exact (hw2.setCell (Nat.le_refl _) _).setCell (Nat.le_refl _) _
    · have hkk : k = l.length := by omega
      subst hkk
      have hi : ¬ ((l.length : Int) < (l.length : Int)) := by omega
      have HO := Lib.hid ho
      clear ho hP
      go_wp2_with fail
      go_ret
      refine ⟨_, rfl, .inr ⟨_, 0, rfl, ⟨Nat.le_refl _, hgr⟩, fun i hi => ?_⟩, ⟨⟨Nat.le_refl _, hgr⟩, fun o => HO.out.frozenAt o, fun o ho => ?_⟩, hb⟩
      · obtain ⟨h0, h1⟩ := HH.out i hi
        rw [Nat.zero_add]
        exact ⟨HR.out i, (HO.out.cellAt _ (by omega)).trans h0, (HO.out.cellAt _ (by omega)).trans h1⟩
      · have hxl : xs.length = l.length * 2 := HO.out.1
        exact ⟨_, (HO.out.cellAt o (by omega)).trans (List.getElem?_eq_getElem (by omega))⟩

/-- The call answers a copy of a tape in blocks of its own that may be written. -/
def FreshT (w : World) (t : Tp) (e : Ending) (w' : World) : Prop :=
  ∃ g1 g2 g3 c3, e = .returned (tpv t (some ⟨g1, 0, none⟩) t.code.length (some ⟨g2, 0, none⟩) t.guards.length (some ⟨g3, 0, none⟩) c3) ∧ Tat w' w.heap.size w'.heap.size t (some ⟨g1, 0, none⟩) (some ⟨g2, 0, none⟩) (some ⟨g3, 0, none⟩) ∧
    Wr w' w.heap.size w'.heap.size (t.code.length * 4) g1 ∧ Wr w' w.heap.size w'.heap.size (t.guards.length * 2) g2 ∧ Wr w' w.heap.size w'.heap.size t.outs.length g3 ∧ Below w.heap.size w w'

set_option maxRecDepth 100000 in
set_option maxHeartbeats 3200000 in
theorem toTape (t : Tp) (ac : Option Addr) (cc : Nat) (ag : Option Addr) (cg : Nat) (ao : Option Addr) (co : Nat) (w : World) (hP : Tat w 0 w.heap.size t ac ag ao) (hs : tpSize t ≤ 1048576) :
    Calls Try.prog 54 #[tpv t ac cc ag cg ao co] w (FreshT w t) := by
  unfold tpv
  have B1 : ∀ o, Below w.heap.size w (w.alloc o) := fun o => (Below.refl _ _).alloc (Nat.le_refl _) o
  have hs1 : t.code.length ≤ 1048576 := by unfold tpSize at hs; omega
  have hs2 : t.guards.length ≤ 1048576 := by unfold tpSize at hs; omega
  have hs3 : t.outs.length ≤ 1048576 := by unfold tpSize at hs; omega
  go_enter Try.func54, Try.ntmps54
  go_wp2_with fail
  have A0 := ((B1 (.cells #[.int .i64 t.inputs, .slice ac t.code.length cc, .slice ag t.guards.length cg, .slice ao t.outs.length co] 79)).alloc (by simp) (.cells #[.int .i64 0, .slice none 0 0, .slice none 0 0, .slice none 0 0] 85)).alloc (by simp; omega) (.cells #[.int .i64 t.inputs, .slice none 0 0, .slice none 0 0, .slice none 0 0] 85)
  obtain ⟨w0, hw0⟩ : ∃ w0, w0 = ((w.alloc (.cells #[.int .i64 t.inputs, .slice ac t.code.length cc, .slice ag t.guards.length cg, .slice ao t.outs.length co] 79)).alloc (.cells #[.int .i64 0, .slice none 0 0, .slice none 0 0, .slice none 0 0] 85)).alloc (.cells #[.int .i64 t.inputs, .slice none 0 0, .slice none 0 0, .slice none 0 0] 85) := ⟨_, rfl⟩
  rw [← hw0] at A0
  have z0 : w0.heap.size = w.heap.size + 1 + 1 + 1 := by rw [hw0]; simp
  have p1 : w0.cell? ⟨w.heap.size, 1, none⟩ = some (.slice ac t.code.length cc) := by rw [hw0]; simp [go_sem]
  have p2 : w0.cell? ⟨w.heap.size, 2, none⟩ = some (.slice ag t.guards.length cg) := by rw [hw0]; simp [go_sem]
  have p3 : w0.cell? ⟨w.heap.size, 3, none⟩ = some (.slice ao t.outs.length co) := by rw [hw0]; simp [go_sem]
  have q0 : w0.cell? ⟨w.heap.size + 1 + 1, 0, none⟩ = some (.int .i64 t.inputs) := by rw [hw0]; simp [go_sem]
  have q1 : w0.cell? ⟨w.heap.size + 1 + 1, 1, none⟩ = some (.slice none 0 0) := by rw [hw0]; simp [go_sem]
  have q2 : w0.cell? ⟨w.heap.size + 1 + 1, 2, none⟩ = some (.slice none 0 0) := by rw [hw0]; simp [go_sem]
  have q3 : w0.cell? ⟨w.heap.size + 1 + 1, 3, none⟩ = some (.slice none 0 0) := by rw [hw0]; simp [go_sem]
  have f0 : ∀ o, w0.frozen? ⟨w.heap.size + 1 + 1, o, none⟩ = false := by intro o; rw [hw0]; simp [go_sem]
  have g0 : Wr w0 0 w0.heap.size 4 (w.heap.size + 1) := by
    refine ⟨by omega, fun o => by rw [hw0]; simp [go_sem], fun o ho => ?_⟩
    match o, ho with
    | 0, _ => exact ⟨.int .i64 0, by rw [hw0]; simp [go_sem]⟩
    | 1, _ => exact ⟨.slice none 0 0, by rw [hw0]; simp [go_sem]⟩
    | 2, _ => exact ⟨.slice none 0 0, by rw [hw0]; simp [go_sem]⟩
    | 3, _ => exact ⟨.slice none 0 0, by rw [hw0]; simp [go_sem]⟩
  rw [← hw0]
  clear hw0 B1
  have ne1 : w.heap.size ≠ w.heap.size + 1 + 1 := by omega
  have ne2 : w.heap.size + 1 ≠ w.heap.size + 1 + 1 := by omega
  refine (toInstrS t.code ac cc w0 ((hP.code.below A0).mono (Nat.le_refl _) A0.size) hs1).mono ?_; rintro e w1 ⟨n1, rfl, hc1, wr1, b1⟩
  obtain ⟨hc, hf⟩ := tbcell b1
  have z1 := b1.size
  have A1 := A0.trans (b1.mono A0.size)
  rw [← hc _ _ (by omega)] at p2 p3 q0 q1 q2 q3
  have f1 : ∀ o, w1.frozen? ⟨w.heap.size + 1 + 1, o, none⟩ = false := fun o => (hf _ _ (by omega)).trans (f0 o)
  have g1 := g0.below b1
  have fx := f1 1
  clear p1 f0 g0 hc hf
  go_wp2_with fail
  obtain ⟨w2, hw2⟩ : ∃ w2, w2 = w1.setCell ⟨w.heap.size + 1 + 1, 1, none⟩ (.slice (some ⟨n1, 0, none⟩) t.code.length t.code.length) := ⟨_, rfl⟩
  have A2 : Below w.heap.size w w2 := by rw [hw2]; exact A1.setCell (by show w.heap.size ≤ w.heap.size + 1 + 1; omega) _
  have z2 : w2.heap.size = w1.heap.size := by rw [hw2]; simp
  have k2 : ∀ j, j ≠ w.heap.size + 1 + 1 → w2.heap[j]? = w1.heap[j]? := fun j hj => by rw [hw2]; exact Below.heap_setCell _ _ _ _ hj
  have p2' : w2.cell? ⟨w.heap.size, 2, none⟩ = some (.slice ag t.guards.length cg) := by rw [hw2, World.cell?_setCell_other _ _ _ _ (by intro e; simp only [Addr.mk.injEq] at e; omega)]; exact p2
  have p3' : w2.cell? ⟨w.heap.size, 3, none⟩ = some (.slice ao t.outs.length co) := by rw [hw2, World.cell?_setCell_other _ _ _ _ (by intro e; simp only [Addr.mk.injEq] at e; omega)]; exact p3
  have q0' : w2.cell? ⟨w.heap.size + 1 + 1, 0, none⟩ = some (.int .i64 t.inputs) := by rw [hw2, World.cell?_setCell_other _ _ _ _ (by intro e; simp only [Addr.mk.injEq] at e; omega)]; exact q0
  have q1' : w2.cell? ⟨w.heap.size + 1 + 1, 1, none⟩ = some (.slice (some ⟨n1, 0, none⟩) t.code.length t.code.length) := by rw [hw2]; exact World.cell?_setCell_same _ _ _ q1
  have q2' : w2.cell? ⟨w.heap.size + 1 + 1, 2, none⟩ = some (.slice none 0 0) := by rw [hw2, World.cell?_setCell_other _ _ _ _ (by intro e; simp only [Addr.mk.injEq] at e; omega)]; exact q2
  have q3' : w2.cell? ⟨w.heap.size + 1 + 1, 3, none⟩ = some (.slice none 0 0) := by rw [hw2, World.cell?_setCell_other _ _ _ _ (by intro e; simp only [Addr.mk.injEq] at e; omega)]; exact q3
  have f2 : ∀ o, w2.frozen? ⟨w.heap.size + 1 + 1, o, none⟩ = false := fun o => by rw [hw2]; simp [f1 o]
  have g2 : Wr w2 0 w2.heap.size 4 (w.heap.size + 1) := by rw [hw2]; exact (((Trn.set (L := 0) (B := w.heap.size + 3) (by omega)).wr g1).mono (Nat.le_refl _) (by simp; omega))
  have hc2 : Cat w2 (w.heap.size + 3) w2.heap.size t.code (some ⟨n1, 0, none⟩) := (hc1.mono (by omega) (by omega)).agree (fun j h1 h2 => k2 j (by omega))
  have wr2 : Wr w2 (w.heap.size + 3) w2.heap.size (t.code.length * 4) n1 := by
    obtain ⟨h1, h2, h3⟩ := wr1
    refine ⟨by omega, fun o => (World.frozen?_of_block (a := ⟨n1, o, none⟩) (k2 n1 (by omega))).trans (h2 o), fun o ho => ?_⟩
    obtain ⟨v, hv⟩ := h3 o ho
    exact ⟨v, (World.cell?_of_block (a := ⟨n1, o, none⟩) (k2 n1 (by omega))).trans hv⟩
  rw [← hw2]
  clear hw2 p2 p3 q0 q1 q2 q3 fx f1 g1 hc1 wr1 k2 A1 b1
  refine (toGuardS t.guards ag cg w2 ((hP.guards.below A2).mono (Nat.le_refl _) A2.size) hs2).mono ?_; rintro e w3 ⟨n2, rfl, hg3, wg3, b3⟩
  obtain ⟨hc, hf⟩ := tbcell b3
  have z3 := b3.size
  have A3 := A2.trans (b3.mono A2.size)
  rw [← hc _ _ (by omega)] at p3' q0' q1' q2' q3'
  have f3 : ∀ o, w3.frozen? ⟨w.heap.size + 1 + 1, o, none⟩ = false := fun o => (hf _ _ (by omega)).trans (f2 o)
  have g3 := g2.below b3
  have hc3 := (hc2.below b3).mono (Nat.le_refl _) b3.size
  have wr3 := (wr2.below b3).mono (Nat.le_refl _) b3.size
  have fx := f3 2
  clear p2' f2 g2 hc hf hc2 wr2
  go_wp2_with fail
  obtain ⟨w4, hw4⟩ : ∃ w4, w4 = w3.setCell ⟨w.heap.size + 1 + 1, 2, none⟩ (.slice (some ⟨n2, 0, none⟩) t.guards.length t.guards.length) := ⟨_, rfl⟩
  have A4 : Below w.heap.size w w4 := by rw [hw4]; exact A3.setCell (by show w.heap.size ≤ w.heap.size + 1 + 1; omega) _
  have z4 : w4.heap.size = w3.heap.size := by rw [hw4]; simp
  have k4 : ∀ j, j ≠ w.heap.size + 1 + 1 → w4.heap[j]? = w3.heap[j]? := fun j hj => by rw [hw4]; exact Below.heap_setCell _ _ _ _ hj
  have p3 : w4.cell? ⟨w.heap.size, 3, none⟩ = some (.slice ao t.outs.length co) := by rw [hw4, World.cell?_setCell_other _ _ _ _ (by intro e; simp only [Addr.mk.injEq] at e; omega)]; exact p3'
  have q0 : w4.cell? ⟨w.heap.size + 1 + 1, 0, none⟩ = some (.int .i64 t.inputs) := by rw [hw4, World.cell?_setCell_other _ _ _ _ (by intro e; simp only [Addr.mk.injEq] at e; omega)]; exact q0'
  have q1 : w4.cell? ⟨w.heap.size + 1 + 1, 1, none⟩ = some (.slice (some ⟨n1, 0, none⟩) t.code.length t.code.length) := by rw [hw4, World.cell?_setCell_other _ _ _ _ (by intro e; simp only [Addr.mk.injEq] at e; omega)]; exact q1'
  have q2 : w4.cell? ⟨w.heap.size + 1 + 1, 2, none⟩ = some (.slice (some ⟨n2, 0, none⟩) t.guards.length t.guards.length) := by rw [hw4]; exact World.cell?_setCell_same _ _ _ q2'
  have q3 : w4.cell? ⟨w.heap.size + 1 + 1, 3, none⟩ = some (.slice none 0 0) := by rw [hw4, World.cell?_setCell_other _ _ _ _ (by intro e; simp only [Addr.mk.injEq] at e; omega)]; exact q3'
  have f4 : ∀ o, w4.frozen? ⟨w.heap.size + 1 + 1, o, none⟩ = false := fun o => by rw [hw4]; simp [f3 o]
  have g4 : Wr w4 0 w4.heap.size 4 (w.heap.size + 1) := by rw [hw4]; exact (((Trn.set (L := 0) (B := w.heap.size + 3) (by omega)).wr g3).mono (Nat.le_refl _) (by simp; omega))
  have hc4 : Cat w4 (w.heap.size + 3) w4.heap.size t.code (some ⟨n1, 0, none⟩) := (hc3.mono (Nat.le_refl _) (by omega)).agree (fun j h1 h2 => k4 j (by omega))
  have hg4 : Gat w4 (w.heap.size + 3) w4.heap.size t.guards (some ⟨n2, 0, none⟩) := (hg3.mono (by omega) (by omega)).agree (fun j h1 h2 => k4 j (by omega))
  have wrk : ∀ n g, Wr w3 (w.heap.size + 3) w3.heap.size n g → Wr w4 (w.heap.size + 3) w4.heap.size n g := by
    intro n g h
    obtain ⟨h1, h2, h3⟩ := h
    refine ⟨by omega, fun o => (World.frozen?_of_block (a := ⟨g, o, none⟩) (k4 g (by omega))).trans (h2 o), fun o ho => ?_⟩
    obtain ⟨v, hv⟩ := h3 o ho
    exact ⟨v, (World.cell?_of_block (a := ⟨g, o, none⟩) (k4 g (by omega))).trans hv⟩
  have wr4 := wrk _ _ wr3
  have wg4 := wrk _ _ (wg3.mono (by omega) (Nat.le_refl _))
  rw [← hw4]
  clear hw4 p3' q0' q1' q2' q3' fx f3 g3 hc3 wr3 k4 A3 b3 hg3 wg3 wrk A2
  refine (toInt64S ao co t.outs w4 ((hP.outs.below A4).mono (Nat.le_refl _) A4.size |>.at (Nat.le_refl _)) hs3).mono ?_; rintro e w5 ⟨n3, c3, rfl, o5, b5⟩
  obtain ⟨hc, hf⟩ := tbcell b5
  have z5 := b5.size
  have A5 := A4.trans (b5.mono A4.size)
  rw [← hc _ _ (by omega)] at q0 q1 q2 q3
  have f5 : ∀ o, w5.frozen? ⟨w.heap.size + 1 + 1, o, none⟩ = false := fun o => (hf _ _ (by omega)).trans (f4 o)
  have g5 := g4.below b5
  have hc5 := (hc4.below b5).mono (Nat.le_refl _) b5.size
  have hg5 := (hg4.below b5).mono (Nat.le_refl _) b5.size
  have wr5 := (wr4.below b5).mono (Nat.le_refl _) b5.size
  have wg5 := (wg4.below b5).mono (Nat.le_refl _) b5.size
  have ho5 := o5.oat
  have wo5 := o5.wr
  have fx := f5 3
  obtain ⟨_, gf, gv⟩ := g5
  obtain ⟨v0, x0⟩ := gv 0 (by omega)
  obtain ⟨v1, x1⟩ := gv 1 (by omega)
  obtain ⟨v2, x2⟩ := gv 2 (by omega)
  obtain ⟨v3, x3⟩ := gv 3 (by omega)
  have y0 := gf 0
  have y1 := gf 1
  have y2 := gf 2
  have y3 := gf 3
  clear p3 f4 g4 hc hf hc4 hg4 wr4 wg4 gv gf
  go_wp2_with fail
  obtain ⟨w6, hw6⟩ : ∃ w6, w6 = (((((w5.setCell ⟨w.heap.size + 1 + 1, 3, none⟩ (.slice (some ⟨n3, 0, none⟩) t.outs.length c3)).setCell ⟨w.heap.size + 1, 0, none⟩ (.int .i64 t.inputs)).setCell ⟨w.heap.size + 1, 1, none⟩ (.slice (some ⟨n1, 0, none⟩) t.code.length t.code.length)).setCell ⟨w.heap.size + 1, 2, none⟩ (.slice (some ⟨n2, 0, none⟩) t.guards.length t.guards.length)).setCell ⟨w.heap.size + 1, 3, none⟩ (.slice (some ⟨n3, 0, none⟩) t.outs.length c3)) := ⟨_, rfl⟩
  have A6 : Below w.heap.size w w6 := by
    rw [hw6]
    exact ((((A5.setCell (by show w.heap.size ≤ w.heap.size + 1 + 1; omega) _).setCell (by simp) _).setCell (by simp) _).setCell (by simp) _).setCell (by simp) _
  have z6 : w6.heap.size = w5.heap.size := by rw [hw6]; simp
  have k6 : ∀ j, w.heap.size + 3 ≤ j → w6.heap[j]? = w5.heap[j]? := fun j hj => by
    rw [hw6]
    iterate 4 rw [Below.heap_setCell _ _ _ _ (by show j ≠ w.heap.size + 1; omega)]
    rw [Below.heap_setCell _ _ _ _ (by show j ≠ w.heap.size + 1 + 1; omega)]
  have wrk : ∀ n g, Wr w5 (w.heap.size + 3) w5.heap.size n g → Wr w6 w.heap.size w6.heap.size n g := by
    intro n g h
    obtain ⟨h1, h2, h3⟩ := h
    refine ⟨by omega, fun o => (World.frozen?_of_block (a := ⟨g, o, none⟩) (k6 g (by omega))).trans (h2 o), fun o ho => ?_⟩
    obtain ⟨v, hv⟩ := h3 o ho
    exact ⟨v, (World.cell?_of_block (a := ⟨g, o, none⟩) (k6 g (by omega))).trans hv⟩
  have wr6 := wrk _ _ wr5
  have wg6 := wrk _ _ wg5
  have wo6 := wrk _ _ (wo5.mono (L' := w.heap.size + 3) (by omega) (Nat.le_refl _))
  have T6 : Tat w6 w.heap.size w6.heap.size t (some ⟨n1, 0, none⟩) (some ⟨n2, 0, none⟩) (some ⟨n3, 0, none⟩) :=
    ⟨(hc5.agree (fun j h1 _ => k6 j h1)).mono (by omega) (by omega), (hg5.agree (fun j h1 _ => k6 j h1)).mono (by omega) (by omega), (ho5.agree (fun j h1 _ => k6 j (by omega))).mono (by omega) (by omega)⟩
  rw [← hw6]
  have r0 : w6.cell? ⟨w.heap.size + 1, 0, none⟩ = some (.int .i64 t.inputs) := by rw [hw6]; simp [go_sem, x0]
  have r1 : w6.cell? ⟨w.heap.size + 1, 1, none⟩ = some (.slice (some ⟨n1, 0, none⟩) t.code.length t.code.length) := by rw [hw6]; simp [go_sem, x1]
  have r2 : w6.cell? ⟨w.heap.size + 1, 2, none⟩ = some (.slice (some ⟨n2, 0, none⟩) t.guards.length t.guards.length) := by rw [hw6]; simp [go_sem, x2]
  have r3 : w6.cell? ⟨w.heap.size + 1, 3, none⟩ = some (.slice (some ⟨n3, 0, none⟩) t.outs.length c3) := by rw [hw6]; simp [go_sem, x3]
  refine bodyPost_ret (v := tpv t (some ⟨n1, 0, none⟩) t.code.length (some ⟨n2, 0, none⟩) t.guards.length (some ⟨n3, 0, none⟩) c3) (by simp [results, Try.results54, go_sem, r0, r1, r2, r3]) rfl ⟨n1, n2, n3, c3, rfl, T6, wr6, wg6, wo6, A6⟩

end Go.Proofs.Ytiimebiecihpkaa
