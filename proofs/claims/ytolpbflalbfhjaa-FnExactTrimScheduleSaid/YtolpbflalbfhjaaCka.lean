/- Rows (Action): where they lie in memory; sizes, copies, comparisons and marks, as the laws make them. -/
import Derived.Test.YtolpbflalbfhjaaTas
import Derived.StillTailTactics
namespace Go.Proofs.Ytolpbflalbfhjaa
open Go.ChangeShapes Go.WideShapes Go.ChangeAt Go.RowKit
set_option linter.unusedVariables false

/-- One of the rows. -/
structure Ac where
  kind : Int
  arg : Int

def noAc : Ac := ⟨0, 0⟩
def RAc (x : Ac) : Prop := I64 x.kind ∧ I64 x.arg
abbrev acv (x : Ac) : Value := .agg #[.int .i64 x.kind, .int .i64 x.arg]
/-- The rows lie one behind the other from the address on, in a block from L on and ahead of B. -/
def AcAt (w : World) (L B : Nat) (l : List Ac) (a : Option Addr) : Prop :=
  l = [] ∨ ∃ b off, a = some ⟨b, off, none⟩ ∧ (L ≤ b ∧ b < B) ∧ ∀ i, i < l.length → RAc (l.getD i noAc) ∧ w.cell? ⟨b, off + i * 2, none⟩ = some (.int .i64 (l.getD i noAc).kind) ∧ w.cell? ⟨b, off + i * 2 + 1, none⟩ = some (.int .i64 (l.getD i noAc).arg)
theorem AcAt.agree {w w' : World} {L B : Nat} {l : List Ac} {a : Option Addr} (h : AcAt w L B l a) (hb : ∀ k, L ≤ k → k < B → w'.heap[k]? = w.heap[k]?) : AcAt w' L B l a := by
  rcases h with h | ⟨b, off, h1, h2, h3⟩
  · exact .inl h
  · refine .inr ⟨b, off, h1, h2, fun i hi => ?_⟩
    obtain ⟨r, c0, c1⟩ := h3 i hi
    have cl : ∀ o v, w.cell? ⟨b, o, none⟩ = some v → w'.cell? ⟨b, o, none⟩ = some v := fun o v h => (World.cell?_of_block (a := ⟨b, o, none⟩) (hb b h2.1 h2.2)).trans h
    exact ⟨r, cl _ _ c0, cl _ _ c1⟩
theorem AcAt.below {w w' : World} {L B : Nat} {l : List Ac} {a : Option Addr} (h : AcAt w L B l a) (hb : Below B w w') : AcAt w' L B l a := h.agree fun k _ h => hb.block k h
theorem AcAt.mono {w : World} {L L' B B' : Nat} (hL : L' ≤ L) (hB : B ≤ B') {l : List Ac} {a : Option Addr} (h : AcAt w L B l a) : AcAt w L' B' l a := by
  rcases h with h | ⟨b, off, h1, h2, h3⟩
  · exact .inl h
  · exact .inr ⟨b, off, h1, by omega, h3⟩
theorem AcAt.next {w w' : World} {l : List Ac} {a : Option Addr} {L : Nat} (h : AcAt w L w.heap.size l a) (hb : Below w.heap.size w w') : AcAt w' L w'.heap.size l a := (h.below hb).mono (Nat.le_refl _) hb.size
theorem rAc_no : RAc noAc := ⟨⟨by decide, by decide⟩, ⟨by decide, by decide⟩⟩
theorem AcAt.row {w : World} {L B : Nat} {l : List Ac} {a : Option Addr} (h : AcAt w L B l a) (k : Nat) : RAc (l.getD k noAc) := by
  by_cases hk : k < l.length
  · rcases h with rfl | ⟨_, _, _, _, h⟩
    · simp at hk
    · exact (h k hk).1
  · rw [List.getD_eq_getElem?_getD, List.getElem?_eq_none (by omega)]; exact rAc_no
/-- rows that came in -/
def IsAcs (W : World) (v : Value) : Prop := ∃ a cap l, v = .slice a (List.length l) cap ∧ AcAt W 0 W.heap.size l a ∧ l.length ≤ maxLen

set_option maxRecDepth 100000 in
theorem cellsAc : Try.prog.cellsOf 55 = 2 := by kernel_rfl
theorem ac_build {w : World} {L B b off : Nat} (hB : L ≤ b ∧ b < B) : ∀ (m : Nat), (∀ i, i < m → ∃ f : Ac, RAc f ∧ w.cell? ⟨b, off + i * 2, none⟩ = some (.int .i64 f.kind) ∧ w.cell? ⟨b, off + i * 2 + 1, none⟩ = some (.int .i64 f.arg)) → ∃ l : List Ac, l.length = m ∧ AcAt w L B l (some ⟨b, off, none⟩) := by
  intro m
  induction m with
  | zero => intro _; exact ⟨[], rfl, .inl rfl⟩
  | succ m ih =>
    intro h
    obtain ⟨l, hl, hp⟩ := ih (fun i hi => h i (by omega))
    obtain ⟨f, hf⟩ := h m (by omega)
    refine ⟨l ++ [f], by simp [hl], .inr ⟨b, off, rfl, hB, fun i hi => ?_⟩⟩
    by_cases him : i = m
    · subst him
      have e : (l ++ [f]).getD i noAc = f := by rw [List.getD_eq_getElem?_getD, List.getElem?_append_right (by omega), hl, Nat.sub_self]; rfl
      rw [e]
      exact hf
    · have hi' : i < l.length := by simp at hi; omega
      have e : (l ++ [f]).getD i noAc = l.getD i noAc := by rw [List.getD_eq_getElem?_getD, List.getD_eq_getElem?_getD, List.getElem?_append_left hi']
      rw [e]
      rcases hp with hp | ⟨b', off', hbo, _, hall⟩
      · rw [hp] at hi'; simp at hi'
      · simp only [Option.some.injEq, Addr.mk.injEq] at hbo
        obtain ⟨rfl, rfl, _⟩ := hbo
        exact hall i hi'
set_option maxRecDepth 100000 in
theorem openAcL {H : Type} {enc : TypeId × Value → H} {W : World} (fuel : Nat) (cs : List Value) (x : DataW H × List MemPlace) (h : DataW.trod enc Try.prog W 0 (fun _ => true) true fuel 26 cs = some x) :
    ∃ a l cap, cs = [.slice a (List.length l) cap] ∧ AcAt W 0 W.heap.size l a ∧ l.length ≤ maxLen := by
  obtain ⟨a, len, cap, rfl, hlen, h⟩ := openRows Try.underlying26 cellsAc (by decide) fuel cs x h
  rcases h with rfl | ⟨b, off, n, rfl, hb, hall⟩
  · exact ⟨a, [], cap, rfl, .inl rfl, Nat.zero_le _⟩
  · obtain ⟨l, hl', hP⟩ := ac_build (w := W) (L := 0) (B := W.heap.size) (off := off) ⟨Nat.zero_le _, hb⟩ len (fun i hi => by
      obtain ⟨cs', y, hlc, g, h2⟩ := hall i hi
      obtain ⟨xs, n', rfl, _, _, hxl, hf⟩ := DataW.trod_struct Try.underlying55 h2
      match cs', hlc with
      | [c0, c1], _ =>
        have q0 := hf 0 _ rfl
        have q1 := hf 1 _ rfl
        obtain ⟨n0, e0, _, r0⟩ := DataW.trod_int Try.underlying2 (q0.trans (List.getElem?_eq_getElem (by rw [hxl]; decide)))
        obtain ⟨n1, e1, _, r1⟩ := DataW.trod_int Try.underlying2 (q1.trans (List.getElem?_eq_getElem (by rw [hxl]; decide)))
        obtain rfl : c0 = .int .i64 n0 := List.head_eq_of_cons_eq e0
        obtain rfl : c1 = .int .i64 n1 := List.head_eq_of_cons_eq e1
        exact ⟨⟨n0, n1⟩, ⟨bounds_i64 r0, bounds_i64 r1⟩, g 0 (by omega), g 1 (by omega)⟩)
    exact ⟨_, l, cap, by rw [hl'], hP, by omega⟩
set_option maxRecDepth 100000 in
theorem openAcs {H : Type} {enc : TypeId × Value → H} {W : World} {base : Nat} {v : Value} {d : DataW H} {p : List MemPlace} (hw : Value.okWide Try.prog W .any base 26 v) (h : DataW.Trod enc Try.prog W 0 (fun _ => true) true 26 v d p) : IsAcs W v := by
  obtain ⟨a0, len0, cap0, rfl⟩ := okWide_slice Try.underlying26 hw
  obtain ⟨fuel, hf⟩ := h
  obtain ⟨a, l, cap, e, h1, h2⟩ := openAcL fuel _ _ hf
  simp [Value.cells] at e
  obtain ⟨rfl, rfl, rfl⟩ := e
  exact ⟨_, _, l, rfl, h1, h2⟩

set_option maxHeartbeats 800000 in
theorem szActionS_t (a : Option Addr) (n cap : Nat) (left : Int) (w : World) (h1 : (n : Int) ≤ left) (h2 : left ≤ 1048576) :
    Calls Try.prog 19 #[.slice a n cap, .int .i64 left] w fun e w' => e = .returned (.int .i64 (left - n)) ∧ w = w' := by
  have hd : decide (left - (n : Int) < 0) = false := decide_eq_false (by omega)
  go_enter Try.func19, Try.ntmps19
  go_wp2_with fail
  go_ret
  exact ⟨rfl, rfl⟩
set_option maxHeartbeats 800000 in
theorem szActionS_f (a : Option Addr) (n cap : Nat) (left : Int) (w : World) (h1 : left < (n : Int)) (h0 : 0 ≤ left) (h2 : (n : Int) ≤ 9223372036854775807) :
    Calls Try.prog 19 #[.slice a n cap, .int .i64 left] w fun e w' => e = .returned (.int .i64 (-1)) ∧ w = w' := by
  have hd : decide (left - (n : Int) < 0) = true := decide_eq_true (by omega)
  go_enter Try.func19, Try.ntmps19
  go_wp2_with fail
  go_ret
  exact ⟨rfl, rfl⟩

/- copies -/
set_option maxRecDepth 100000 in
theorem infoAc : (Try.prog.info? 53).map (fun i => (i.zero, i.size, i.bytes)) = some (some (.agg #[.int .i64 0, .int .i64 0]), 2, 16) := by kernel_rfl
set_option maxRecDepth 100000 in
set_option maxHeartbeats 1600000 in
theorem toAction (x : Ac) (w : World) : Calls Try.prog 52 #[acv x] w fun e w' => e = .returned (acv x) ∧ Below w.heap.size w w' := by
  unfold acv
  have B1 : ∀ o, Below w.heap.size w (w.alloc o) := fun o => (Below.refl _ _).alloc (Nat.le_refl _) o
  obtain ⟨a0, a1⟩ := x
  go_enter Try.func52, Try.ntmps52
  go_wp2_with fail
  refine bodyPost_ret (v := .agg #[.int .i64 a0, .int .i64 a1]) (by simp [results, Try.results52, go_sem]) rfl ⟨rfl, ?_⟩
  exact ((B1 _).alloc (by simp) _).alloc (by simp; omega) _
/-- The first k rows are copied. -/
def HalfAc (l : List Ac) (xs : List Value) (k : Nat) : Prop := ∀ i, i < k → xs[i * 2]? = some (.int .i64 (l.getD i noAc).kind) ∧ xs[i * 2 + 1]? = some (.int .i64 (l.getD i noAc).arg)
def putAc (xs : List Value) (i : Nat) (x : Ac) : List Value := ((xs.set (i * 2) (.int .i64 x.kind)).set (i * 2 + 1) (.int .i64 x.arg))
theorem putAc_old {xs : List Value} {i : Nat} {x : Ac} {j : Nat} (h : j < i * 2) : (putAc xs i x)[j]? = xs[j]? := by
  unfold putAc
  iterate 2 rw [List.getElem?_set_ne (by omega)]
theorem putAc_new {xs : List Value} {i : Nat} {x : Ac} (h : i * 2 + 1 < xs.length) : (putAc xs i x)[i * 2]? = some (.int .i64 x.kind) ∧ (putAc xs i x)[i * 2 + 1]? = some (.int .i64 x.arg) := by
  unfold putAc
  refine ⟨?_, ?_⟩ <;> simp (disch := omega) [List.getElem?_set] <;> omega
theorem halfAc_step {l : List Ac} {xs : List Value} {k : Nat} (H : HalfAc l xs k) (hlen : k * 2 + 1 < xs.length) : HalfAc l (putAc xs k (l.getD k noAc)) (k + 1) := by
  intro i hi
  by_cases hik : i = k
  · subst hik; exact putAc_new hlen
  · obtain ⟨h0, h1⟩ := H i (by omega)
    exact ⟨(putAc_old (by omega)).trans h0, (putAc_old (by omega)).trans h1⟩
/-- The call answers a copy in a block of its own that may be written. -/
def FreshAc (w : World) (l : List Ac) (e : Ending) (w' : World) : Prop :=
  ∃ g, e = .returned (.slice (some ⟨g, 0, none⟩) l.length l.length) ∧ AcAt w' w.heap.size w'.heap.size l (some ⟨g, 0, none⟩) ∧ Wr w' w.heap.size w'.heap.size (l.length * 2) g ∧ Below w.heap.size w w'
set_option maxRecDepth 100000 in
set_option maxHeartbeats 1600000 in
theorem toActionS (l : List Ac) (a : Option Addr) (cap : Nat) (w : World) (hP : AcAt w 0 w.heap.size l a) (hs : l.length ≤ 1048576) :
    Calls Try.prog 21 #[.slice a l.length cap] w (FreshAc w l) := by
  obtain ⟨i0, hi, hz0, hz1, hz2⟩ := info_parts infoAc
  have HR := Lib.hid (fun i => hP.row i)
  go_enter Try.func21, Try.ntmps21
  go_wp2_with (refine wpList_make_full _ rfl _ _ 29 rfl w.heap.size 53 i0 _ 2 Try.underlying29 hi hz0 hz1 .i64 .i64 _ _ l.length rfl rfl rfl rfl ?c2 ?c3 (Nat.le_refl _) ?_)
  case c2 => rw [hz2]; omega
  case c3 => unfold maxLen; omega
  intro w1 ho1 hg1
  have hb1 := (Below.refl w.heap.size w).grown hg1 (Nat.le_refl _) (by intro k hk; cases hk)
  have hg : w.heap.size < w1.heap.size := (World.ownsRow.lt ho1 _ rfl).2
  obtain ⟨xs0, ho2⟩ : ∃ xs, w1.ownsRow w.heap.size 53 2 (.slice (some ⟨w.heap.size, 0, none⟩) l.length l.length) l.length xs := ⟨_, ho1⟩
  clear ho1 hg1 hi hz0 hz1 hz2
  go_wp2
  go_loopw [4] (fun i wr => ∃ (k : Nat) (xs : List Value), k ≤ l.length ∧ i = .int .i64 k ∧ wr.ownsRow w.heap.size 53 2 (.slice (some ⟨w.heap.size, 0, none⟩) l.length l.length) l.length xs ∧ Hid (HalfAc l xs k) ∧ w.heap.size < wr.heap.size ∧ Below w.heap.size w wr) (fun i _ => l.length - (intOf i).toNat)
  case atStart => exact ⟨0, xs0, Nat.zero_le _, rfl, ho2, (fun i hi => by omega), hg, hb1⟩
  case round =>
    obtain ⟨k, xs, hk, rfl, ho, HH, hgr, hb⟩ := hrel
    clear ho2 hb1 hg
    by_cases hlt : k < l.length
    · obtain ⟨b, off, rfl, hbB, hall⟩ := ((hP.below hb).resolve_left (by intro e; rw [e] at hlt; simp at hlt))
      obtain ⟨hr, c0, c1⟩ := hall k hlt
      have HC := Lib.hid (toAction (l.getD k noAc) wr)
      have hi : (k : Int) < (l.length : Int) := by omega
      have HS : Hid (k * 2 + 1 < xs.length → HalfAc l (putAc xs k (l.getD k noAc)) (k + 1)) := halfAc_step HH.out
      clear hall hP HH hr
      generalize l.getD k noAc = x at c0 c1 HC HS
      go_wp2_with fail
      refine (HC.out).mono ?_; rintro e w' ⟨rfl, hb2⟩
      clear HC c0 c1
      have ho' := World.ownsRow.kept ho (below_grownBy hb2) (.inr (by simp [Value.ownBlock]))
      have hxl : xs.length = l.length * 2 := ho.1
      have s0 := ho'.cellAt (k * 2) (by omega)
      have s1 := ho'.cellAt (k * 2 + 1) (by omega)
      rw [List.getElem?_eq_getElem (by omega)] at s0 s1
      have t0 := ho'.frozenAt (k * 2)
      have t1 := ho'.frozenAt (k * 2 + 1)
      generalize xs[k * 2]'(by omega) = v0 at s0
      generalize xs[k * 2 + 1]'(by omega) = v1 at s1
      have HO := Lib.hid ho'
      have HX := Lib.hid hxl
      have hw2 := hb.trans (hb2.mono hb.size)
      have hsz := hb2.size
      clear ho ho' hxl hb
      go_wp2_with fail
      have hset : ((w'.setCell ⟨w.heap.size, k * 2, none⟩ (.int .i64 x.kind)).setCell ⟨w.heap.size, k * 2 + 1, none⟩ (.int .i64 x.arg)).ownsRow w.heap.size 53 2 (.slice (some ⟨w.heap.size, 0, none⟩) l.length l.length) l.length (putAc xs k x) := (World.ownsRow.stored (World.ownsRow.stored HO.out (k * 2) _).1 (k * 2 + 1) _).1
      refine ⟨⟨k + 1, putAc xs k x, by omega, by go_num, hset, HS.out (by rw [HX.out]; omega), by simp; omega, ?_⟩, by simp [intOf]; omega⟩
      exact ((hw2.setCell (Nat.le_refl _) _).setCell (Nat.le_refl _) _)
    · have hkk : k = l.length := by omega
      subst hkk
      have hi : ¬ ((l.length : Int) < (l.length : Int)) := by omega
      have HO := Lib.hid ho
      clear ho hP
      go_wp2_with fail
      go_ret
      refine ⟨_, rfl, .inr ⟨_, 0, rfl, ⟨Nat.le_refl _, hgr⟩, fun i hi => ?_⟩, ⟨⟨Nat.le_refl _, hgr⟩, fun o => HO.out.frozenAt o, fun o ho => ?_⟩, hb⟩
      · obtain ⟨h0, h1⟩ := HH.out i hi
        rw [Nat.zero_add]
        exact ⟨HR.out i, (HO.out.cellAt _ (by omega)).trans h0, (HO.out.cellAt _ (by omega)).trans h1⟩
      · have hxl : xs.length = l.length * 2 := HO.out.1
        exact ⟨_, (HO.out.cellAt o (by omega)).trans (List.getElem?_eq_getElem (by omega))⟩

/- comparisons -/
set_option maxRecDepth 100000 in
set_option maxHeartbeats 1600000 in
theorem eqAction (x : Ac) (w : World) : Calls Try.prog 55 #[acv x, acv x] w fun e w' => e = .returned (.bool true) ∧ Below w.heap.size w w' := by
  unfold acv
  have B1 : ∀ o, Below w.heap.size w (w.alloc o) := fun o => (Below.refl _ _).alloc (Nat.le_refl _) o
  obtain ⟨a0, a1⟩ := x
  have e0 : (a0 != a0) = false := by simp
  have e1 : (a1 != a1) = false := by simp
  go_enter Try.func55, Try.ntmps55
  go_wp2_with fail
  go_ret
  exact ⟨rfl, (B1 _).alloc (by simp) _⟩
set_option maxRecDepth 100000 in
set_option maxHeartbeats 1600000 in
theorem eqActionS (l : List Ac) (a b : Option Addr) (ca cb : Nat) (w : World) (hP : AcAt w 0 w.heap.size l a) (hQ : AcAt w 0 w.heap.size l b) (hlen : l.length ≤ 1048576) :
    Calls Try.prog 23 #[.slice a l.length ca, .slice b l.length cb] w fun e w' => e = .returned (.bool true) ∧ Below w.heap.size w w' := by
  go_enter Try.func23, Try.ntmps23
  go_wp2_with fail
  go_loopw [5] (fun i wr => ∃ k : Nat, k ≤ l.length ∧ i = .int .i64 k ∧ Below w.heap.size w wr) (fun i _ => l.length - (intOf i).toNat)
  case atStart => exact ⟨0, Nat.zero_le _, rfl, Below.refl _ _⟩
  case round =>
    obtain ⟨k, hk, rfl, hw⟩ := hrel
    by_cases hlt : k < l.length
    · obtain ⟨b1, o1, rfl, hbB1, hall1⟩ := ((hP.below hw).resolve_left (by intro e; rw [e] at hlt; simp at hlt))
      obtain ⟨b2, o2, rfl, hbB2, hall2⟩ := ((hQ.below hw).resolve_left (by intro e; rw [e] at hlt; simp at hlt))
      obtain ⟨hr, c0, c1⟩ := hall1 k hlt
      obtain ⟨_, f0, f1⟩ := hall2 k hlt
      have HC := fun (W : World) => Lib.hid (eqAction (l.getD k noAc) W)
      have hi : (k : Int) < (l.length : Int) := by omega
      clear hall1 hall2 hP hQ hr
      generalize l.getD k noAc = f at c0 c1 f0 f1 HC
      go_wp2_with fail
      go_still_tail 8, (by kernel_rfl)
      change wpList _ _ _ _ _ wr.drew
      have hdw : Below wr.heap.size wr wr.drew := ⟨rfl, rfl, rfl, Nat.le_refl _, fun _ _ => rfl⟩
      generalize wr.drew = w2 at hdw ⊢
      have HC2 := HC w2
      clear c0 c1 f0 f1 HC
      go_wp2_with fail
      refine (HC2.out).mono ?_; rintro e w' ⟨rfl, hb⟩
      have hw2 := (hw.trans (hdw.mono hw.size)).trans (hb.mono (Nat.le_trans hw.size hdw.size))
      clear HC2
      go_wp2_with fail
      go_roundw
      case rel => exact ⟨k + 1, by omega, by go_num, hw2⟩
      case measure => simp [intOf]; omega
    · have hi : ¬ (k : Int) < (l.length : Int) := by omega
      go_wp2_with fail
      go_ret
      exact ⟨rfl, hw⟩

/- marks -/
/-- so many rows bear the marks from k0 on -/
def MkAc (w : World) (g n k0 : Nat) : Prop := ∀ i, i < n → w.cell? ⟨g, i * 2, none⟩ = some (.int .i64 ((k0 + 2 * i + 0 : Nat) : Int)) ∧ w.cell? ⟨g, i * 2 + 1, none⟩ = some (.int .i64 ((k0 + 2 * i + 1 : Nat) : Int))
theorem MkAc.agree {w w' : World} {g n k0 : Nat} (h : MkAc w g n k0) (hb : w'.heap[g]? = w.heap[g]?) : MkAc w' g n k0 := by
  intro i hi
  obtain ⟨c0, c1⟩ := h i hi
  have cl : ∀ o v, w.cell? ⟨g, o, none⟩ = some v → w'.cell? ⟨g, o, none⟩ = some v := fun o v h => (World.cell?_of_block (a := ⟨g, o, none⟩) hb).trans h
  exact ⟨cl _ _ c0, cl _ _ c1⟩

set_option maxRecDepth 100000 in
set_option maxHeartbeats 3200000 in
theorem markActionS (L B n g cap : Nat) (k0 : Nat) (w : World) (h : Wr w L B (n * 2) g) (hl : n ≤ 1048576) (hk0 : k0 ≤ 16777216) :
    Calls Try.prog 34 #[.slice (some ⟨g, 0, none⟩) n cap, .int .i64 k0] w fun e w' => e = .returned (.int .i64 ((k0 + 2 * n : Nat) : Int)) ∧ Trn L B w w' ∧ w.grownBy w' (some g) ∧ MkAc w' g n k0 := by
  have hb := h.1
  go_enter Try.func34, Try.ntmps34
  go_wp2_with fail
  go_loopw [1, 5] (fun q i wr => ∃ k : Nat, k ≤ n ∧ i = .int .i64 k ∧ q = .int .i64 ((k0 + 2 * k : Nat) : Int) ∧ Trn L B w wr ∧ w.grownBy wr (some g) ∧ Hid (MkAc wr g k k0)) (fun _ i _ => n - (intOf i).toNat)
  case atStart => exact ⟨0, Nat.zero_le _, rfl, rfl, Trn.refl _ _ _, World.grownBy.refl _ _, fun i hi => by omega⟩
  case round =>
    obtain ⟨k, hk, rfl, rfl, hT, hG, HM⟩ := hrel
    by_cases hlt : k < n
    · have hi : (k : Int) < (n : Int) := by omega
      have HW := Lib.hid (hT.wr h)
      obtain ⟨_, hfz, hcl⟩ := hT.wr h
      obtain ⟨v0, c0⟩ := hcl (k * 2) (by omega)
      obtain ⟨v1, c1⟩ := hcl (k * 2 + 1) (by omega)
      have f0 := hfz (k * 2)
      have f1 := hfz (k * 2 + 1)
      have T4 := fun (x0 x1 : Value) => ((hT.trans (Trn.set (o := k * 2) (v := x0) hb)).trans (Trn.set (o := k * 2 + 1) (v := x1) hb))
      have G4 := fun (x0 x1 : Value) => (grownBy_trans (grownBy_trans hG (grownBy_set _ g (k * 2) x0)) (grownBy_set _ g (k * 2 + 1) x1))
      have E : Hid (((k0 + 2 * k : Nat) : Int) + 1 + 1 = ((k0 + 2 * (k + 1) : Nat) : Int)) := by show _ = _; omega
      have M4 : Hid (MkAc ((wr.setCell ⟨g, k * 2, none⟩ (.int .i64 ((k0 + 2 * k + 0 : Nat) : Int))).setCell ⟨g, k * 2 + 1, none⟩ (.int .i64 ((k0 + 2 * k + 1 : Nat) : Int))) g (k + 1) k0) := by
        intro i hi
        by_cases hik : i = k
        · subst hik
          have cl := HW.out.2.2
          refine ⟨by rw [World.cell?_setCell_other _ _ _ _ (by intro e; simp only [Addr.mk.injEq] at e; omega)]; exact World.cell?_setCell_same _ _ _ c0, by exact World.cell?_setCell_same _ _ _ (by rw [World.cell?_setCell_other _ _ _ _ (by intro e; simp only [Addr.mk.injEq] at e; omega)]; exact c1)⟩
        · obtain ⟨c0, c1⟩ := HM.out i (by omega)
          refine ⟨by rw [World.cell?_setCell_other _ _ _ _ (by intro e; simp only [Addr.mk.injEq] at e; omega), World.cell?_setCell_other _ _ _ _ (by intro e; simp only [Addr.mk.injEq] at e; omega)]; exact c0, by rw [World.cell?_setCell_other _ _ _ _ (by intro e; simp only [Addr.mk.injEq] at e; omega), World.cell?_setCell_other _ _ _ _ (by intro e; simp only [Addr.mk.injEq] at e; omega)]; exact c1⟩
      have x0 : 0 ≤ ((k0 + 2 * k : Nat) : Int) := by omega
      have x1 : ((k0 + 2 * k : Nat) : Int) ≤ 1099511627776 := by omega
      have ee0 : ((k0 + 2 * k + 0 : Nat) : Int) = ((k0 + 2 * k : Nat) : Int) := by omega
      have ee1 : ((k0 + 2 * k + 1 : Nat) : Int) = ((k0 + 2 * k : Nat) : Int) + 1 := by omega
      clear hcl hfz hT hG HM HW
      generalize ((k0 + 2 * k : Nat) : Int) = x at *
      simp only [ee1] at M4
      clear ee0 ee1
      go_wp2_with fail
      go_roundw
      case rel => exact ⟨k + 1, by omega, by go_num, by rw [← E.out], T4 _ _, G4 _ _, M4⟩
      case measure => simp [intOf]; omega
    · have hkk : k = n := by omega
      subst hkk
      have hi : ¬ (k : Int) < (k : Int) := by omega
      go_wp2_with fail
      go_ret
      exact ⟨rfl, hT, hG, HM.out⟩

set_option maxRecDepth 100000 in
set_option maxHeartbeats 3200000 in
theorem heldActionS (n g cap : Nat) (k0 : Nat) (w : World) (h : MkAc w g n k0) (hl : n ≤ 1048576) (hk0 : k0 ≤ 16777216) :
    Calls Try.prog 42 #[.slice (some ⟨g, 0, none⟩) n cap, .int .i64 k0] w fun e w' => e = .returned (.int .i64 ((k0 + 2 * n : Nat) : Int)) ∧ w = w' := by
  have HM := Lib.hid h
  clear h
  go_enter Try.func42, Try.ntmps42
  go_wp2_with fail
  go_loop [1, 5] (fun q i => ∃ k : Nat, k ≤ n ∧ i = .int .i64 k ∧ q = .int .i64 ((k0 + 2 * k : Nat) : Int)) (fun _ i => n - (intOf i).toNat)
  case atStart => exact ⟨0, Nat.zero_le _, rfl, rfl⟩
  case round =>
    obtain ⟨k, hk, rfl, rfl⟩ := hrel
    by_cases hlt : k < n
    · have hi : (k : Int) < (n : Int) := by omega
      obtain ⟨c0, c1⟩ := HM.out k hlt
      have E : Hid (((k0 + 2 * k : Nat) : Int) + 1 + 1 = ((k0 + 2 * (k + 1) : Nat) : Int)) := by show _ = _; omega
      have x0 : 0 ≤ ((k0 + 2 * k : Nat) : Int) := by omega
      have x1 : ((k0 + 2 * k : Nat) : Int) ≤ 1099511627776 := by omega
      have ee0 : ((k0 + 2 * k + 0 : Nat) : Int) = ((k0 + 2 * k : Nat) : Int) := by omega
      rw [ee0] at c0
      clear ee0
      have ee1 : ((k0 + 2 * k + 1 : Nat) : Int) = ((k0 + 2 * k : Nat) : Int) + 1 := by omega
      rw [ee1] at c1
      clear ee1
      generalize ((k0 + 2 * k : Nat) : Int) = x at *
      go_wp2_with fail
      go_round
      case rel => exact ⟨k + 1, by omega, by go_num, by rw [← E.out]⟩
      case measure => simp [intOf]; omega
    · have hkk : k = n := by omega
      subst hkk
      have hi : ¬ (k : Int) < (k : Int) := by omega
      go_wp2_with fail
      go_ret
      exact ⟨rfl, rfl⟩

end Go.Proofs.Ytolpbflalbfhjaa
