/- Rows (Term): sizes and copies, as the laws make them. -/
import Derived.Test.YtggojffmfjeikaaPya
import Derived.Test.YtggojffmfjeikaaSzv
namespace Go.Proofs.Ytggojffmfjeikaa
open Go.RowKit
set_option linter.unusedVariables false

/-- what the lists of the rows take -/
def tmSum : List Tm → Nat
  | [] => 0
  | f :: r => f.exps.length + tmSum r
theorem tmSum_drop {l : List Tm} {k : Nat} (h : k < l.length) : tmSum (l.drop k) = (l.getD k noTm).exps.length + tmSum (l.drop (k + 1)) := by
  rw [List.drop_eq_getElem_cons h, tmSum, List.getD_eq_getElem?_getD, List.getElem?_eq_getElem h]; rfl
theorem tmSum_le {l : List Tm} {k : Nat} (h : k < l.length) : (l.getD k noTm).exps.length ≤ tmSum l := by
  induction l generalizing k with
  | nil => simp at h
  | cons f r ih =>
    cases k with
    | zero => show f.exps.length ≤ f.exps.length + tmSum r; omega
    | succ k => have := ih (k := k) (by simp at h; omega); show (r.getD k noTm).exps.length ≤ f.exps.length + tmSum r; omega
def tmSize (l : List Tm) : Nat := l.length + tmSum l
theorem szInts_Tm (a : Option Addr) (n cap : Nat) (left : Int) (w : World) (h0 : 0 ≤ left) (h1 : left ≤ 1048576) (hn : (n : Int) ≤ 9223372036854775807) :
    Calls Try.prog 54 #[.slice a n cap, .int .i64 left] w fun e w' => e = .returned (.int .i64 (szv n left)) ∧ w = w' := by
  by_cases h : (n : Int) ≤ left
  · rw [szv_t h]; exact szOuts_t a n cap left w h h1
  · rw [szv_f h]; exact szOuts_f a n cap left w (by omega) h0 hn

set_option maxRecDepth 100000 in
set_option maxHeartbeats 1600000 in
theorem szTerm (f : Tm) (a : Option Addr) (cap : Nat) (left : Int) (w : World) (hR : RTm f) (h0 : 0 ≤ left) (h1 : left ≤ 1048576) :
    Calls Try.prog 74 #[.agg #[.slice a f.exps.length cap, .int .i64 f.coef], .int .i64 left] w fun e w' => e = .returned (.int .i64 (szv f.exps.length left)) ∧ Below w.heap.size w w' := by
  have B1 : ∀ o, Below w.heap.size w (w.alloc o) := fun o => (Below.refl _ _).alloc (Nat.le_refl _) o
  obtain ⟨⟨r0, s0⟩, r1⟩ := hR
  have hn : (f.exps.length : Int) ≤ 9223372036854775807 := by unfold maxLen at s0; omega
  clear r0 s0 r1
  have HC := fun (W : World) => Lib.hid (szInts_Tm a f.exps.length cap left W h0 h1 hn)
  by_cases hs : (f.exps.length : Int) ≤ left
  · have HZ := Lib.hid (szv_t hs)
    have hx : 0 ≤ left - (f.exps.length : Int) := by omega
    have hd : decide (left - (f.exps.length : Int) < 0) = false := decide_eq_false (by omega)
    go_enter Try.func74, Try.ntmps74
    go_wp2_with fail
    refine (HC _).out.mono ?_; rintro e w' ⟨rfl, rfl⟩
    rw [HZ.out]
    generalize left - (f.exps.length : Int) = x at hx hd HZ
    clear hs HC
    go_wp2_with fail
    go_ret
    exact ⟨ret_int HZ.out.symm, B1 _⟩
  · have HZ := Lib.hid (szv_f hs)
    go_enter Try.func74, Try.ntmps74
    go_wp2_with fail
    refine (HC _).out.mono ?_; rintro e w' ⟨rfl, rfl⟩
    rw [HZ.out]
    clear hs HC
    go_wp2_with fail
    go_ret
    exact ⟨ret_int HZ.out.symm, B1 _⟩

set_option maxRecDepth 100000 in
set_option maxHeartbeats 1600000 in
theorem szTermS (l : List Tm) (a : Option Addr) (cap : Nat) (left : Int) (w : World) (hP : TmAt w 0 w.heap.size l a) (hlen : l.length ≤ maxLen) (h0 : 0 ≤ left) (h1 : left ≤ 1048576) :
    Calls Try.prog 34 #[.slice a l.length cap, .int .i64 left] w fun e w' => e = .returned (.int .i64 (szv (tmSize l) left)) ∧ Below w.heap.size w w' := by
  unfold maxLen at hlen
  unfold tmSize
  have hlen2 : l.length ≤ 9223372036854775807 := by omega
  clear hlen
  by_cases hl : (l.length : Int) ≤ left
  · have H0 : Hid (szv (l.length + tmSum l) left = szv (tmSum (l.drop 0)) (left - (l.length : Int))) := szv_add hl
    have hx0 : 0 ≤ left - (l.length : Int) := by omega
    have hx1 : left - (l.length : Int) ≤ 1048576 := by omega
    have hd : decide (left - (l.length : Int) < 0) = false := decide_eq_false (by omega)
    go_enter Try.func34, Try.ntmps34
    go_wp2_with fail
    generalize left - (l.length : Int) = x0 at H0 hx0 hx1 hd
    go_loopw [1, 5] (fun q i wr => ∃ (k : Nat) (x : Int), k ≤ l.length ∧ i = .int .i64 k ∧ q = .int .i64 x ∧ 0 ≤ x ∧ x ≤ 1048576 ∧ Hid (szv (l.length + tmSum l) left = szv (tmSum (l.drop k)) x) ∧ Below w.heap.size w wr) (fun _ i _ => l.length - (intOf i).toNat)
    case atStart => exact ⟨0, x0, Nat.zero_le _, rfl, rfl, hx0, hx1, H0, Below.refl _ _⟩
    case round =>
      obtain ⟨k, x, hk, rfl, rfl, hx, hx2, HX, hw⟩ := hrel
      clear hd H0 hx0 hx1
      by_cases hlt : k < l.length
      · obtain ⟨b, off, rfl, hbB, hall⟩ := ((hP.below hw).resolve_left (by intro e; rw [e] at hlt; simp at hlt))
        obtain ⟨hr, a', cap', c0, c1, hF⟩ := hall k hlt
        have HU := Lib.hid (tmSum_drop hlt)
        clear hF hall hP
        generalize l.getD k noTm = f at HU c0 c1 hr
        have HC := Lib.hid (szTerm f a' cap' x wr hr hx hx2)
        have hi : (k : Int) < (l.length : Int) := by omega
        clear hr
        by_cases hs : (f.exps.length : Int) ≤ x
        · have HZ := Lib.hid (szv_t hs)
          have HX2 : Hid (szv (l.length + tmSum l) left = szv (tmSum (l.drop (k + 1))) (x - (f.exps.length : Int))) := by
            show _ = _
            rw [HX.out, HU.out]; exact szv_add hs
          have hy : 0 ≤ x - (f.exps.length : Int) := by omega
          have hy2 : x - (f.exps.length : Int) ≤ 1048576 := by omega
          have hd : decide (x - (f.exps.length : Int) < 0) = false := decide_eq_false (by omega)
          go_wp2_with fail
          refine (HC.out).mono ?_; rintro e w' ⟨rfl, hb⟩
          have hw2 := hw.trans (hb.mono hw.size)
          rw [HZ.out]
          generalize x - (f.exps.length : Int) = y at hy hy2 hd HX2 HZ
          clear hs hb HX c0 c1 HU HC
          go_wp2_with fail
          go_roundw
          case rel => exact ⟨k + 1, y, by omega, by go_num, rfl, hy, hy2, HX2, hw2⟩
          case measure => simp [intOf]; omega
        · have HZ := Lib.hid (szv_f hs)
          have HX2 : Hid (szv (l.length + tmSum l) left = -1) := by
            show _ = _
            rw [HX.out, HU.out]; exact szv_over hs
          go_wp2_with fail
          refine (HC.out).mono ?_; rintro e w' ⟨rfl, hb⟩
          have hw2 := hw.trans (hb.mono hw.size)
          rw [HZ.out]
          clear hs hb HX c0 c1 HU HC HZ
          go_wp2_with fail
          go_ret
          exact ⟨ret_int HX2.out.symm, hw2⟩
      · have HX2 : Hid (szv (l.length + tmSum l) left = x) := by
          show _ = _
          rw [HX.out, List.drop_eq_nil_of_le (by omega)]; exact (szv_t (by show (0 : Int) ≤ x; exact hx)).trans (by show x - (0 : Int) = x; omega)
        clear HX
        have hi : ¬ (k : Int) < (l.length : Int) := by omega
        go_wp2_with fail
        go_ret
        exact ⟨ret_int HX2.out.symm, hw⟩
  · have HX2 : Hid (szv (l.length + tmSum l) left = -1) := szv_over hl
    have hd : decide (left - (l.length : Int) < 0) = true := decide_eq_true (by omega)
    go_enter Try.func34, Try.ntmps34
    go_wp2_with fail
    go_ret
    exact ⟨ret_int HX2.out.symm, Below.refl _ _⟩

/- copies -/
set_option maxRecDepth 100000 in
theorem infoTm : (Try.prog.info? 67).map (fun i => (i.zero, i.size, i.bytes)) = some (some (.agg #[.slice none 0 0, .int .i64 0]), 2, 32) := by kernel_rfl
/-- The call answers a copy of a row with a list of its own. -/
def FreshTm1 (w : World) (f : Tm) (e : Ending) (w' : World) : Prop :=
  ∃ g cap, e = .returned (.agg #[.slice (some ⟨g, 0, none⟩) f.exps.length cap, .int .i64 f.coef]) ∧ Own w.heap.size w' g cap f.exps ∧ Below w.heap.size w w'

set_option maxRecDepth 100000 in
set_option maxHeartbeats 1600000 in
theorem toTerm (f : Tm) (a : Option Addr) (cap : Nat) (w : World) (hO : Oat w 0 w.heap.size f.exps a) (hs : f.exps.length ≤ 1048576) :
    Calls Try.prog 77 #[.agg #[.slice a f.exps.length cap, .int .i64 f.coef]] w (FreshTm1 w f) := by
  have B1 : ∀ o, Below w.heap.size w (w.alloc o) := fun o => (Below.refl _ _).alloc (Nat.le_refl _) o
  go_enter Try.func77, Try.ntmps77
  go_wp2_with fail
  refine (toInt64S a cap f.exps _ ((hO.below (((B1 _).alloc (by simp) _).alloc (by simp; omega) _)).at (by simp; omega)) hs).mono ?_; rintro e w' ⟨g, cp, rfl, ho, hb⟩
  obtain ⟨hc, hf⟩ := tbcell hb
  have hz := hb.size
  simp at hz
  have hgb := ho.base
  simp at hgb
  go_wp2_with fail
  have hB := (((B1 (Obj.cells #[.slice a f.exps.length cap, .int .i64 f.coef] 108)).alloc (by simp) (Obj.cells #[.slice none 0 0, .int .i64 0] 67)).alloc (by simp; omega) (Obj.cells #[.slice none 0 0, .int .i64 0] 67)).trans (hb.mono (by simp; omega))
  refine bodyPost_ret (v := .agg #[.slice (some ⟨g, 0, none⟩) f.exps.length cp, .int .i64 f.coef]) (by simp [results, Try.results77, go_sem, hc]) rfl ⟨g, cp, rfl, ?_, ?_⟩
  · exact ((((ho.mono (by simp; omega)).setOther (by simp; omega) _).setOther (by simp; omega) _).setOther (by simp; omega) _).setOther (by simp; omega) _
  · exact (((hB.setCell (by first | (simp; done) | (simp; omega)) _).setCell (by first | (simp; done) | (simp; omega)) _).setCell (by first | (simp; done) | (simp; omega)) _).setCell (by first | (simp; done) | (simp; omega)) _

/-- The first k rows are copied: their lists lie one behind the other. -/
def HalfTm (w : World) (L : Nat) (l : List Tm) (xs : List Value) (k : Nat) (gs : Nat → Nat) : Prop :=
  (∀ i, i < k → RTm (l.getD i noTm) ∧ ∃ y, xs[i * 2]? = some (.slice (some ⟨gs i, 0, none⟩) (l.getD i noTm).exps.length y) ∧ xs[i * 2 + 1]? = some (.int .i64 (l.getD i noTm).coef) ∧ Own (L + 1) w (gs i) y (l.getD i noTm).exps) ∧ ∀ i j, i < j → j < k → gs i < gs j
def putTm (xs : List Value) (i : Nat) (v0 v1 : Value) : List Value := ((xs.set (i * 2) v0).set (i * 2 + 1) v1)
theorem putTm_old {xs : List Value} {i : Nat} {v0 v1 : Value} {j : Nat} (h : j < i * 2) : (putTm xs i v0 v1)[j]? = xs[j]? := by
  unfold putTm
  iterate 2 rw [List.getElem?_set_ne (by omega)]
theorem putTm_new {xs : List Value} {i : Nat} {v0 v1 : Value} (h : i * 2 + 1 < xs.length) : (putTm xs i v0 v1)[i * 2]? = some v0 ∧ (putTm xs i v0 v1)[i * 2 + 1]? = some v1 := by
  unfold putTm
  refine ⟨?_, ?_⟩ <;> simp (disch := omega) [List.getElem?_set] <;> omega
theorem halfTm_step {wr w' w'' : World} {L : Nat} {l : List Tm} {xs : List Value} {k : Nat} {g : Nat} {cap : Nat} {gs : Nat → Nat} (H : HalfTm wr L l xs k gs) (hb : Below wr.heap.size wr w') (hL : L < wr.heap.size)
    (hw : ∀ j, j ≠ L → w''.heap[j]? = w'.heap[j]?) (hz : w''.heap.size = w'.heap.size) (hlen : k * 2 + 1 < xs.length)
    (hr : RTm (l.getD k noTm)) (hO : Own wr.heap.size w' g cap (l.getD k noTm).exps) : HalfTm w'' L l (putTm xs k (.slice (some ⟨g, 0, none⟩) (l.getD k noTm).exps.length cap) (.int .i64 (l.getD k noTm).coef)) (k + 1) (fun i => if i = k then g else gs i) := by
  have kept : ∀ (B : Nat) (u : World) (q c : Nat) (xs : List Int), q ≠ L → (∀ j, j = q → u.heap[j]? = w'.heap[j]? ∨ True) → Own B w' q c xs → q < w'.heap.size → Own B w'' q c xs := by
    intro B u q c xs hq _ ho hlt
    obtain ⟨h1, h2⟩ := ho
    refine ⟨h1, ?_⟩
    rcases h2 with h2 | ⟨g', cap', cur, hv, hg, hh, r⟩
    · exact Or.inl h2
    · refine Or.inr ⟨g', cap', cur, hv, hg, ?_, r⟩
      have : q = g' := by simp only [Value.slice.injEq, Option.some.injEq, Addr.mk.injEq] at hv; exact hv.1.1
      rw [hw g' (by omega)]; exact hh
  refine ⟨fun i hi => ?_, fun i j hij hj => ?_⟩
  · by_cases hik : i = k
    · subst hik
      have hg := hO.base
      obtain ⟨h0, h1⟩ := putTm_new (xs := xs) (i := i) (v0 := .slice (some ⟨g, 0, none⟩) (l.getD i noTm).exps.length cap) (v1 := .int .i64 (l.getD i noTm).coef) hlen
      simp only [if_true]
      exact ⟨hr, cap, h0, h1, kept _ w' _ _ _ (by omega) (fun _ _ => .inr trivial) (hO.mono (by omega)) hg.2⟩
    · obtain ⟨hr', y, h0, h1, ho⟩ := H.1 i (by omega)
      have hg := ho.base
      simp only [if_neg hik]
      exact ⟨hr', y, (putTm_old (by omega)).trans h0, (putTm_old (by omega)).trans h1, kept _ w' _ _ _ (by omega) (fun _ _ => .inr trivial) (ho.kept hb hg.2) (Nat.lt_of_lt_of_le hg.2 hb.size)⟩
  · have hik : i ≠ k := by omega
    simp only [if_neg hik]
    by_cases hjk : j = k
    · subst hjk
      simp only [if_true]
      obtain ⟨_, y, _, _, ho⟩ := H.1 i hij
      have := ho.base
      have := hO.base
      omega
    · simp only [if_neg hjk]
      exact H.2 i j hij (by omega)

/-- The rows lie in a block that may be written, from the block L on; their lists lie in blocks of their own, each in another one. -/
def TmW (w : World) (L : Nat) (l : List Tm) (b : Nat) (gs : Nat → Nat) : Prop :=
  (L ≤ b ∧ b < w.heap.size) ∧ (∀ o, w.frozen? ⟨b, o, none⟩ = false) ∧ (∀ i, i < l.length → RTm (l.getD i noTm) ∧ gs i ≠ b ∧ ∃ y,
    w.cell? ⟨b, i * 2, none⟩ = some (.slice (some ⟨gs i, 0, none⟩) (l.getD i noTm).exps.length y) ∧ w.cell? ⟨b, i * 2 + 1, none⟩ = some (.int .i64 (l.getD i noTm).coef) ∧ Own L w (gs i) y (l.getD i noTm).exps) ∧ ∀ i j, i < j → j < l.length → gs i ≠ gs j
theorem TmW.at {w : World} {L : Nat} {l : List Tm} {b : Nat} {gs : Nat → Nat} (h : TmW w L l b gs) : TmAt w L w.heap.size l (some ⟨b, 0, none⟩) := by
  obtain ⟨h1, _, h3, _⟩ := h
  refine .inr ⟨b, 0, rfl, h1, fun i hi => ?_⟩
  obtain ⟨hr, _, y, h0, h1, ho⟩ := h3 i hi
  rw [Nat.zero_add]
  exact ⟨hr, _, y, h0, h1, ho.oat⟩
theorem TmW.next {w w' : World} {L : Nat} {l : List Tm} {b : Nat} {gs : Nat → Nat} (h : TmW w L l b gs) (hb : Below w.heap.size w w') : TmW w' L l b gs := by
  obtain ⟨h1, h2, h3, h4⟩ := h
  have hz := hb.size
  have cl : ∀ o v, w.cell? ⟨b, o, none⟩ = some v → w'.cell? ⟨b, o, none⟩ = some v := fun o v h => (hb.cell (p := ⟨b, o, none⟩) h1.2).trans h
  refine ⟨by omega, fun o => (hb.frozen (p := ⟨b, o, none⟩) h1.2).trans (h2 o), fun i hi => ?_, h4⟩
  obtain ⟨hr, hn, y, h0, h1, ho⟩ := h3 i hi
  exact ⟨hr, hn, y, cl _ _ h0, cl _ _ h1, ho.kept hb ho.base.2⟩

/-- The call answers a copy of the rows in blocks of its own. -/
def FreshTm (w : World) (l : List Tm) (e : Ending) (w' : World) : Prop :=
  ∃ g gs, e = .returned (.slice (some ⟨g, 0, none⟩) l.length l.length) ∧ TmW w' w.heap.size l g gs ∧ Below w.heap.size w w'

set_option maxRecDepth 100000 in
set_option maxHeartbeats 1600000 in
theorem toTermS (l : List Tm) (a : Option Addr) (cap : Nat) (w : World) (hP : TmAt w 0 w.heap.size l a) (hs : tmSize l ≤ 1048576) :
    Calls Try.prog 36 #[.slice a l.length cap] w (FreshTm w l) := by
  have hlen2 : l.length ≤ 1048576 := by unfold tmSize at hs; omega
  have hall2 : ∀ k, k < l.length → (l.getD k noTm).exps.length ≤ 1048576 := fun k hk => by have := tmSum_le hk; unfold tmSize at hs; omega
  obtain ⟨i0, hi, hz0, hz1, hz2⟩ := info_parts infoTm
  go_enter Try.func36, Try.ntmps36
  go_wp2_with (refine wpList_make_full _ rfl _ _ 27 rfl w.heap.size 67 i0 _ 2 Try.underlying27 hi hz0 hz1 .i64 .i64 _ _ l.length rfl rfl rfl rfl ?c2 ?c3 (Nat.le_refl _) ?_)
  case c2 => rw [hz2]; omega
  case c3 => unfold maxLen; omega
  intro w1 ho1 hg1
  have hb1 := (Below.refl w.heap.size w).grown hg1 (Nat.le_refl _) (by intro k hk; cases hk)
  have hg : w.heap.size < w1.heap.size := (World.ownsRow.lt ho1 _ rfl).2
  obtain ⟨xs0, ho2⟩ : ∃ xs, w1.ownsRow w.heap.size 67 2 (.slice (some ⟨w.heap.size, 0, none⟩) l.length l.length) l.length xs := ⟨_, ho1⟩
  have HA := Lib.hid hall2
  clear ho1 hg1 hi hz0 hz1 hz2 hall2
  go_wp2
  go_loopw [4] (fun i wr => ∃ (k : Nat) (xs : List Value) (gs : Nat → Nat), k ≤ l.length ∧ i = .int .i64 k ∧ wr.ownsRow w.heap.size 67 2 (.slice (some ⟨w.heap.size, 0, none⟩) l.length l.length) l.length xs ∧ Hid (HalfTm wr w.heap.size l xs k gs) ∧ w.heap.size < wr.heap.size ∧ Below w.heap.size w wr) (fun i _ => l.length - (intOf i).toNat)
  case atStart => exact ⟨0, xs0, fun _ => 0, Nat.zero_le _, rfl, ho2, ⟨fun i hi => by omega, fun i j _ hj => by omega⟩, hg, hb1⟩
  case round =>
    obtain ⟨k, xs, gs, hk, rfl, ho, HH, hgr, hb⟩ := hrel
    clear ho2 hb1 hg
    by_cases hlt : k < l.length
    · obtain ⟨b, off, rfl, hbB, hall⟩ := (((hP.below hb).mono (Nat.le_refl _) hb.size).resolve_left (by intro e; rw [e] at hlt; simp at hlt))
      obtain ⟨hr, a', cap', c0, c1, hO⟩ := hall k hlt
      have HC := Lib.hid (toTerm (l.getD k noTm) a' cap' wr hO (HA.out k hlt))
      have hi : (k : Int) < (l.length : Int) := by omega
      have HS : Hid (∀ {w' w'' : World} {g cp : Nat}, Below wr.heap.size wr w' → (∀ j, j ≠ w.heap.size → w''.heap[j]? = w'.heap[j]?) → w''.heap.size = w'.heap.size → k * 2 + 1 < xs.length → Own wr.heap.size w' g cp (l.getD k noTm).exps →
        HalfTm w'' w.heap.size l (putTm xs k (.slice (some ⟨g, 0, none⟩) (l.getD k noTm).exps.length cp) (.int .i64 (l.getD k noTm).coef)) (k + 1) (fun i => if i = k then g else gs i)) :=
        fun h1 h2 h3 h4 h5 => halfTm_step HH.out h1 hgr h2 h3 h4 hr h5
      clear hall hP hs HA HH hr hO
      generalize l.getD k noTm = f at c0 c1 HC HS
      go_wp2_with fail
      refine (HC.out).mono ?_; rintro e w' ⟨g, cp, rfl, hof, hb2⟩
      clear HC c0 c1
      have ho' := World.ownsRow.kept ho (below_grownBy hb2) (.inr (by simp [Value.ownBlock]))
      have hxl : xs.length = l.length * 2 := ho.1
      have s0 := ho'.cellAt (k * 2) (by omega)
      have s1 := ho'.cellAt (k * 2 + 1) (by omega)
      rw [List.getElem?_eq_getElem (by omega)] at s0 s1
      have t0 := ho'.frozenAt (k * 2)
      have t1 := ho'.frozenAt (k * 2 + 1)
      generalize xs[k * 2]'(by omega) = v0 at s0
      generalize xs[k * 2 + 1]'(by omega) = v1 at s1
      have HO := Lib.hid ho'
      have HX := Lib.hid hxl
      have hw2 := hb.trans (hb2.mono hb.size)
      have hsz := hb2.size
      clear ho ho' hxl hb
      go_wp2_with fail
      have hset : ((w'.setCell ⟨w.heap.size, k * 2, none⟩ (.slice (some ⟨g, 0, none⟩) f.exps.length cp)).setCell ⟨w.heap.size, k * 2 + 1, none⟩ (.int .i64 f.coef)).ownsRow w.heap.size 67 2 (.slice (some ⟨w.heap.size, 0, none⟩) l.length l.length) l.length (putTm xs k (.slice (some ⟨g, 0, none⟩) f.exps.length cp) (.int .i64 f.coef)) :=
        (World.ownsRow.stored (World.ownsRow.stored HO.out (k * 2) _).1 (k * 2 + 1) _).1
      refine ⟨⟨k + 1, putTm xs k (.slice (some ⟨g, 0, none⟩) f.exps.length cp) (.int .i64 f.coef), fun i => if i = k then g else gs i, by omega, by go_num, hset, ?_, by simp; omega, ?_⟩, by simp [intOf]; omega⟩
      · refine HS.out hb2 (fun j hj => ?_) (by simp) (by rw [HX.out]; omega) hof
        iterate 2 rw [Below.heap_setCell _ _ _ _ (by show j ≠ w.heap.size; omega)]
      · exact ((hw2.setCell (Nat.le_refl _) _).setCell (Nat.le_refl _) _)
    · have hkk : k = l.length := by omega
      subst hkk
      have hi : ¬ ((l.length : Int) < (l.length : Int)) := by omega
      have HO := Lib.hid ho
      clear ho hP
      go_wp2_with fail
      go_ret
      refine ⟨_, gs, rfl, ⟨⟨Nat.le_refl _, hgr⟩, fun o => HO.out.frozenAt o, fun i hi => ?_, fun i j hij hj => Nat.ne_of_lt (HH.out.2 i j hij hj)⟩, hb⟩
      obtain ⟨hr, y, h0, h1, hk⟩ := HH.out.1 i hi
      have hg := hk.base
      exact ⟨hr, by omega, y, (HO.out.cellAt _ (by omega)).trans h0, (HO.out.cellAt _ (by omega)).trans h1, hk.mono (by omega)⟩

end Go.Proofs.Ytggojffmfjeikaa
