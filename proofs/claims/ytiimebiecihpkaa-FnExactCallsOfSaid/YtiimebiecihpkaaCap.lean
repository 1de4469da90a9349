/- Functions that are called: the program's marks. -/
import Derived.Test.YtiimebiecihpkaaIh
import Derived.Test.YtiimebiecihpkaaCan
namespace Go.Proofs.Ytiimebiecihpkaa
open Go.RowKit
set_option linter.unusedVariables false

/-- the calls of expressions are marked -/
def markB : Fo → List Bool → List Bool
  | .nil, bs => bs
  | .cons k n _ _ ks r, bs => markB r (markB ks (if k = 10 ∨ k = 11 then bs.set n.toNat true else bs))
def markE (k n : Int) (ks : Fo) (bs : List Bool) : List Bool := markB ks (if k = 10 ∨ k = 11 then bs.set n.toNat true else bs)
theorem markB_cons {f : Fo} {i : Nat} {k n p c : Int} {ks : Fo} (h : Fo.drop i f = .cons k n p c ks (Fo.drop (i + 1) f)) (bs : List Bool) : markB (Fo.drop i f) bs = markB (Fo.drop (i + 1) f) (markE k n ks bs) := by
  rw [h]; rfl
theorem markB_len (f : Fo) : ∀ bs : List Bool, (markB f bs).length = bs.length := by
  induction f with
  | nil => intro bs; rfl
  | cons k n p c ks r ihk ihr =>
    intro bs
    show (markB r (markB ks (if k = 10 ∨ k = 11 then bs.set n.toNat true else bs))).length = _
    rw [ihr, ihk]
    split
    · exact List.length_set
    · rfl
/-- every node has its form, and calls functions ahead of m -/
def okC (m : Int) : Fo → Prop
  | .nil => True
  | .cons k n p c ks r => (formB k n p c ks.len = true ∧ (k = 10 ∨ k = 11 → 0 ≤ n ∧ n < m)) ∧ okC m ks ∧ okC m r
theorem okC_drop {m : Int} {f : Fo} (h : okC m f) : ∀ i, okC m (Fo.drop i f) := by
  induction f with
  | nil => intro i; rw [Fo.drop_nil]; trivial
  | cons k n p c ks r _ ih =>
    intro i
    cases i with
    | zero => rw [Fo.drop_zero]; exact h
    | succ i => exact ih h.2.2 i
theorem okC_mono {m m' : Int} (hm : m ≤ m') {f : Fo} : okC m f → okC m' f := by
  induction f with
  | nil => intro _; trivial
  | cons k n p c ks r ihk ihr => intro h; exact ⟨⟨h.1.1, fun hk => by have := h.1.2 hk; omega⟩, ihk h.2.1, ihr h.2.2⟩
theorem okC_tree {fs : List Fn} {funcs : Int} {f : Fo} : ∀ {vars q : Int} {i : Nat}, treeB fs funcs f vars q i = true → okC funcs f := by
  induction f with
  | nil => intro _ _ _ _; trivial
  | cons k n p c ks r ihk ihr =>
    intro vars q i h
    have e : treeB fs funcs (.cons k n p c ks r) vars q i = ((nodeB fs (vars + more q i) funcs k n p c ks.len && treeB fs funcs ks (vars + more q i) k 0) && treeB fs funcs r vars q (i + 1)) := rfl
    rw [e, Bool.and_eq_true, Bool.and_eq_true] at h
    obtain ⟨⟨h1, h2⟩, h3⟩ := h
    have h4 := formAdm fs (vars + more q i) funcs k n p c ks.len
    rw [h1, Bool.and_eq_true] at h4
    refine ⟨⟨h4.1, fun hk => ?_⟩, ihk h2, ihr h3⟩
    unfold nodeB at h1
    rw [if_pos hk, Bool.and_eq_true, decide_eq_true_eq] at h1
    exact h1.1
theorem form_kids {k n p c : Int} {m : Nat} (hform : formB k n p c m = true) : (k = 7 → 1 ≤ m) ∧ (k = 8 → 3 ≤ m) ∧ (k = 9 → 2 ≤ m) ∧ (1 ≤ k ∧ k ≤ 11) := by
  refine ⟨?_, ?_, ?_, ?_⟩
  · rintro rfl; simp [formB, innerB] at hform; omega
  · rintro rfl; simp [formB, innerB] at hform; omega
  · rintro rfl; simp [formB, innerB] at hform; omega
  · rcases kind_all k with h | h | h | h | h | h | h | h | h | h | h | ⟨g1, g2, g3, g4, g5, g6, g7, g8, g9, g10, g11⟩
    iterate 11
      · omega
    · simp [formB, g1, g2, g3, g4, g5, g6, g7, g8, g9, g10, g11] at hform

theorem grownBy_under {w w' w'' : World} {r : Option Nat} (h : w.grownBy w' r) (hb : Below w'.heap.size w' w'') : w.grownBy w'' r :=
  grownBy_trans h ⟨hb.os, hb.tape, hb.output, hb.size, fun k hk _ => hb.block k hk⟩
/-- The block g holds these marks. -/
def OwnM (B : Nat) (w : World) (g : Nat) (bs : List Bool) : Prop := w.ownsRow B 4 1 (.slice (some ⟨g, 0, none⟩) bs.length bs.length) bs.length (bs.map Value.bool)
theorem OwnM.set {B : Nat} {w : World} {g : Nat} {bs : List Bool} (h : OwnM B w g bs) (k : Nat) (x : Bool) : OwnM B (w.setCell ⟨g, k, none⟩ (.bool x)) g (bs.set k x) := by
  unfold OwnM
  have := World.ownsRow.stored h k (.bool x)
  rw [List.length_set, List.map_set]
  exact this.1
theorem OwnM.cellAt {B : Nat} {w : World} {g : Nat} {bs : List Bool} (h : OwnM B w g bs) (k : Nat) (hk : k < bs.length) : w.cell? ⟨g, k, none⟩ = some (.bool (bs.getD k false)) := by
  rw [World.ownsRow.cellAt h k (by omega), List.getElem?_map, List.getElem?_eq_getElem hk, List.getD_eq_getElem?_getD, List.getElem?_eq_getElem hk]; rfl
theorem OwnM.below {B : Nat} {w w' : World} {g : Nat} {bs : List Bool} (h : OwnM B w g bs) (hb : Below w.heap.size w w') : OwnM B w' g bs :=
  World.ownsRow.kept h (below_grownBy hb) (.inr (by simp [Value.ownBlock]))
theorem OwnM.base {B : Nat} {w : World} {g : Nat} {bs : List Bool} (h : OwnM B w g bs) : B ≤ g ∧ g < w.heap.size := World.ownsRow.lt h g rfl

def MarksRes (B g : Nat) (bs : List Bool) (w : World) (e : Ending) (w' : World) : Prop := e = .returned (.tuple #[]) ∧ OwnM B w' g bs ∧ w.grownBy w' (some g)

set_option maxRecDepth 100000 in
set_option maxHeartbeats 6400000 in
theorem iMarkCalls_all (B g : Nat) : ∀ (m : Nat) (f : Fo), f.size < m → ∀ (a : Option Addr) (cap : Nat) (bs : List Bool) (w : World), Fat w 0 g f a → f.size ≤ 1048576 → OwnM B w g bs → okC (bs.length : Int) f → bs.length ≤ 1048576 →
    Calls Try.prog 113 #[.slice a f.len cap, .slice (some ⟨g, 0, none⟩) bs.length bs.length] w (MarksRes B g (markB f bs) w) := by
  intro m
  induction m with
  | zero => intro f hf; omega
  | succ m ih =>
    intro f hfm a cap bs w hF hsz hM hok hbl
    have hlen : f.len ≤ 1048576 := by have := Fo.len_le f; omega
    have H0 : Hid (markB f bs = markB (Fo.drop 0 f) bs) := by show _ = _; rw [Fo.drop_zero]
    have hg0 : w.grownBy w (some g) := World.grownBy.refl _ _
    have IH := Lib.hid ih
    have hgw0 := hM.base.2
    have hnl : Hid ((markB f bs).length = bs.length) := markB_len f bs
    clear ih
    go_enter Try.func113, Try.ntmps113
    go_wp2_with fail
    go_loopw [10] (fun q wr => ∃ (t : Nat) (cs : List Bool), t ≤ f.len ∧ q = .int .i64 t ∧ Hid (markB f bs = markB (Fo.drop t f) cs) ∧ Hid (cs.length = bs.length) ∧ OwnM B wr g cs ∧ w.grownBy wr (some g)) (fun q _ => f.len - (intOf q).toNat)
    case atStart => exact ⟨0, bs, Nat.zero_le _, rfl, H0, rfl, hM, hg0⟩
    case round =>
      obtain ⟨t, cs, ht, rfl, HX, HL, hMc, hgr⟩ := hrel
      clear H0 hM hg0
      have hws := hgr.size
      by_cases hlt : t < f.len
      · have hti : (t : Int) < (f.len : Int) := by omega
        have hFr : Fat wr 0 g f a := Fat.agree (fun j _ hj => hgr.block j (by omega) (by simp; omega)) hF
        obtain ⟨b1, o1, rfl, hbB⟩ := hFr.blk (by omega)
        obtain ⟨k1, n1, p1, c1, kk, a2, cap2, hdr, hr, hkl, d0, d1, d2, d3, d4, hk'⟩ := hFr.node hlt
        have hlt' := Fo.kid_lt hdr
        have hokd := okC_drop hok t
        rw [hdr] at hokd
        obtain ⟨⟨hfo, hcl⟩, hokk, _⟩ := hokd
        obtain ⟨h7, h8, h9, h111⟩ := form_kids hfo
        have hkkl : kk.len ≤ 1048576 := by have := Fo.len_le kk; omega
        have HX2 : Hid (markB f bs = markB (Fo.drop (t + 1) f) (markE k1 n1 kk cs)) := by show _ = _; rw [HX.out, markB_cons hdr]
        obtain ⟨wk, hwk⟩ : ∃ wk, wk = wr.alloc (.cells #[.int .i64 k1, .int .i64 n1, .int .i64 p1, .int .i64 c1, .slice a2 kk.len cap2] 53) := ⟨_, rfl⟩
        have zk : wk.heap.size = wr.heap.size + 1 := by rw [hwk]; simp
        have hbk : Below wr.heap.size wr wk := by rw [hwk]; exact (Below.refl _ _).alloc (Nat.le_refl _) _
        have b4 : wk.cell? ⟨wr.heap.size, 4, none⟩ = some (.slice a2 kk.len cap2) := by rw [hwk]; simp [go_sem]
        have HN := Lib.hid (iNode k1 n1 p1 c1 kk a2 cap2 wk ((Fat.agree (fun j _ hj => hbk.block j (by have := hMc.base; omega)) hk').mono (Nat.le_refl _) (by have := hMc.base; omega)) hkkl h7 h8 h9 h111)
        have hgl := hMc.base.2
        clear hfo h7 h8 h9 h111 hdr hkl HX
        go_wp2_with fail
        rw [← hwk]
        clear hwk d0 d1 d2 d3 d4
        refine (HN.out).mono ?_; rintro e w2 ⟨v, rfl, hv, hb2⟩
        have hM2 := (hMc.below hbk).below hb2
        have x4 := (hb2.cell (p := ⟨wr.heap.size, 4, none⟩) (by show wr.heap.size < _; omega)).trans b4
        have z2 := hb2.size
        have hB2 : Below wr.heap.size wr w2 := hbk.trans (hb2.mono hbk.size)
        have lg2 : g < w2.heap.size := by omega
        have lr2 : wr.heap.size < w2.heap.size := by omega
        have ne1 : wr.heap.size ≠ g := by omega
        have ne2 : g ≠ wr.heap.size := by omega
        clear HN b4
        have hgw2 : wr.grownBy w2 (some g) := ⟨hB2.os, hB2.tape, hB2.output, hB2.size, fun j hj _ => hB2.block j hj⟩
        have HCall : ∀ (c' : List Bool) (W : World), c'.length = bs.length → OwnM B W g c' → wr.grownBy W (some g) →
            Hid (Calls Try.prog 113 #[.slice a2 kk.len cap2, .slice (some ⟨g, 0, none⟩) bs.length bs.length] W (MarksRes B g (markB kk c') W)) := fun c' W hl hm hgW => by
          have h := IH.out kk (by omega) a2 cap2 c' W (Fat.agree (fun j _ hj => hgW.block j (by omega) (by simp; omega)) hk') (by omega) hm (by rw [hl]; exact hokk) (by omega)
          rw [hl] at h
          exact h
        clear IH hokk hk' hlt' hF
        rcases hv with ⟨rfl, rfl⟩ | ⟨rfl, rfl⟩ | ⟨rfl, rfl⟩ | ⟨rfl, rfl⟩ | ⟨⟨h1, h2, h10, h11⟩, T, xv, rfl, hT⟩
        · have HE : Hid (markE 1 n1 kk cs = markB kk cs) := by show _ = _; unfold markE; rw [if_neg (by omega)]
          have qC := fun W v => asCall_no W 258 v (by decide)
          have qL := fun W v => asLoop_no W 258 v (by decide)
          go_wp2_with fail
          refine (HCall (cs) _ (by simp [HL.out]) hM2 hgw2).out.mono ?_; rintro e w5 ⟨rfl, hM5, hg5⟩
          have hgx : w.grownBy w5 (some g) := grownBy_trans (grownBy_trans hgr hgw2) hg5
          have HX3 : Hid (markB f bs = markB (Fo.drop (t + 1) f) (markB kk (cs))) := by show _ = _; rw [HX2.out, HE.out]
          have HL3 : Hid ((markB kk (cs)).length = bs.length) := by show _ = _; rw [markB_len]; simp [HL.out]
          clear HCall HX2 HE hMc hM2 hg5 x4
          go_wp2_with fail
          go_roundw
          case rel => exact ⟨t + 1, _, by omega, by go_num, HX3, HL3, hM5, hgx⟩
          case measure => simp [intOf]; omega
        · have HE : Hid (markE 2 n1 kk cs = markB kk cs) := by show _ = _; unfold markE; rw [if_neg (by omega)]
          have qC := fun W v => asCall_no W 260 v (by decide)
          have qL := fun W v => asLoop_no W 260 v (by decide)
          go_wp2_with fail
          refine (HCall (cs) _ (by simp [HL.out]) hM2 hgw2).out.mono ?_; rintro e w5 ⟨rfl, hM5, hg5⟩
          have hgx : w.grownBy w5 (some g) := grownBy_trans (grownBy_trans hgr hgw2) hg5
          have HX3 : Hid (markB f bs = markB (Fo.drop (t + 1) f) (markB kk (cs))) := by show _ = _; rw [HX2.out, HE.out]
          have HL3 : Hid ((markB kk (cs)).length = bs.length) := by show _ = _; rw [markB_len]; simp [HL.out]
          clear HCall HX2 HE hMc hM2 hg5 x4
          go_wp2_with fail
          go_roundw
          case rel => exact ⟨t + 1, _, by omega, by go_num, HX3, HL3, hM5, hgx⟩
          case measure => simp [intOf]; omega
        · have hnn := hcl (by omega)
          obtain ⟨j, rfl⟩ := Int.eq_ofNat_of_zero_le hnn.1
          have hjl : j < cs.length := by rw [HL.out]; omega
          have cj := hM2.cellAt j hjl
          have fj := World.ownsRow.frozenAt hM2 j
          have hji : (j : Int) < (bs.length : Int) := hnn.2
          have HE : Hid (markE 10 (j : Int) kk cs = markB kk (cs.set j true)) := by show _ = _; unfold markE; rw [if_pos (by omega)]; rfl
          generalize cs.getD j false = cv at cj
          have qC := fun W v => asCall_yes W v
          have hown : ∀ o, OwnM B ((w2.setCell ⟨g, j, none⟩ (.bool true)).alloc o) g (cs.set j true) := fun o => (hM2.set j true).below ((Below.refl _ _).alloc (Nat.le_refl _) o)
          have hgw3 : ∀ o, wr.grownBy ((w2.setCell ⟨g, j, none⟩ (.bool true)).alloc o) (some g) := fun o => grownBy_under (grownBy_trans hgw2 (grownBy_set w2 g j (.bool true))) ((Below.refl _ _).alloc (Nat.le_refl _) o)
          go_wp2_with fail
          refine (HCall (cs.set j true) _ (by simp [HL.out]) (hown _) (hgw3 _)).out.mono ?_; rintro e w5 ⟨rfl, hM5, hg5⟩
          have hgx : w.grownBy w5 (some g) := grownBy_trans (grownBy_trans hgr (hgw3 _)) hg5
          have HX3 : Hid (markB f bs = markB (Fo.drop (t + 1) f) (markB kk (cs.set j true))) := by show _ = _; rw [HX2.out, HE.out]
          have HL3 : Hid ((markB kk (cs.set j true)).length = bs.length) := by show _ = _; rw [markB_len]; simp [HL.out]
          clear HCall HX2 HE hMc hM2 hg5 x4
          go_wp2_with fail
          go_roundw
          case rel => exact ⟨t + 1, _, by omega, by go_num, HX3, HL3, hM5, hgx⟩
          case measure => simp [intOf]; omega
        · have hnn := hcl (by omega)
          obtain ⟨j, rfl⟩ := Int.eq_ofNat_of_zero_le hnn.1
          have hjl : j < cs.length := by rw [HL.out]; omega
          have cj := hM2.cellAt j hjl
          have fj := World.ownsRow.frozenAt hM2 j
          have hji : (j : Int) < (bs.length : Int) := hnn.2
          have HE : Hid (markE 11 (j : Int) kk cs = markB kk (cs.set j true)) := by show _ = _; unfold markE; rw [if_pos (by omega)]; rfl
          generalize cs.getD j false = cv at cj
          have qC := fun W v => asCall_no W 220 v (by decide)
          have qL := fun W v => asLoop_yes W v
          have hown : ∀ o, OwnM B ((w2.setCell ⟨g, j, none⟩ (.bool true)).alloc o) g (cs.set j true) := fun o => (hM2.set j true).below ((Below.refl _ _).alloc (Nat.le_refl _) o)
          have hgw3 : ∀ o, wr.grownBy ((w2.setCell ⟨g, j, none⟩ (.bool true)).alloc o) (some g) := fun o => grownBy_under (grownBy_trans hgw2 (grownBy_set w2 g j (.bool true))) ((Below.refl _ _).alloc (Nat.le_refl _) o)
          go_wp2_with fail
          refine (HCall (cs.set j true) _ (by simp [HL.out]) (hown _) (hgw3 _)).out.mono ?_; rintro e w5 ⟨rfl, hM5, hg5⟩
          have hgx : w.grownBy w5 (some g) := grownBy_trans (grownBy_trans hgr (hgw3 _)) hg5
          have HX3 : Hid (markB f bs = markB (Fo.drop (t + 1) f) (markB kk (cs.set j true))) := by show _ = _; rw [HX2.out, HE.out]
          have HL3 : Hid ((markB kk (cs.set j true)).length = bs.length) := by show _ = _; rw [markB_len]; simp [HL.out]
          clear HCall HX2 HE hMc hM2 hg5 x4
          go_wp2_with fail
          go_roundw
          case rel => exact ⟨t + 1, _, by omega, by go_num, HX3, HL3, hM5, hgx⟩
          case measure => simp [intOf]; omega
        · have HE : Hid (markE k1 n1 kk cs = markB kk cs) := by show _ = _; unfold markE; rw [if_neg (by omega)]
          have qC := fun W v => asCall_no W T v (by rcases hT with rfl | rfl | rfl | rfl <;> decide)
          have qL := fun W v => asLoop_no W T v (by rcases hT with rfl | rfl | rfl | rfl <;> decide)
          clear hT h1 h2 h10 h11
          go_wp2_with fail
          refine (HCall (cs) _ (by simp [HL.out]) hM2 hgw2).out.mono ?_; rintro e w5 ⟨rfl, hM5, hg5⟩
          have hgx : w.grownBy w5 (some g) := grownBy_trans (grownBy_trans hgr hgw2) hg5
          have HX3 : Hid (markB f bs = markB (Fo.drop (t + 1) f) (markB kk (cs))) := by show _ = _; rw [HX2.out, HE.out]
          have HL3 : Hid ((markB kk (cs)).length = bs.length) := by show _ = _; rw [markB_len]; simp [HL.out]
          clear HCall HX2 HE hMc hM2 hg5 x4
          go_wp2_with fail
          go_roundw
          case rel => exact ⟨t + 1, _, by omega, by go_num, HX3, HL3, hM5, hgx⟩
          case measure => simp [intOf]; omega
      · have hti : ¬ (t : Int) < (f.len : Int) := by omega
        have HX2 : Hid (markB f bs = cs) := by show _ = _; rw [HX.out, Fo.drop_end (by omega)]; rfl
        clear HX hF
        go_wp2_with fail
        go_end0
        exact ⟨rfl, by rw [HX2.out]; exact hMc, hgr⟩

end Go.Proofs.Ytiimebiecihpkaa
