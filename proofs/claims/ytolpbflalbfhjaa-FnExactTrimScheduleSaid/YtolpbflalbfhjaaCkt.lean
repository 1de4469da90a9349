/- Idle actions: by the program and by the model. -/
import Derived.Test.YtolpbflalbfhjaaCkh
import Derived.Deep.QuietTactic
import Derived.BigQuiet
import Derived.Deep.RegionHeld3
namespace Go.Proofs.Ytolpbflalbfhjaa
open Go.RowKit
set_option linter.unusedVariables false

theorem ckdrew {B : Nat} {a w : World} (h : Below B a w) : Below B a w.drew := h.trans ⟨rfl, rfl, rfl, Nat.le_refl _, fun _ _ => rfl⟩
/-- whether a store into slot k is idle ahead of these -/
def stF (k : Int) : List Ac → Bool
  | [] => true
  | y :: r => if eqAc y ⟨3, k⟩ = true then false else if eqAc y ⟨2, k⟩ = true then true else stF k r
/-- whether an action is idle ahead of these -/
def idB (x : Ac) (r : List Ac) : Bool :=
  if x.kind = 2 then stF x.arg r else if x.kind = 1 ∨ x.kind = 3 then (decide (r.length = 0) || decide ((r.getD 0 noAc).kind = 3)) else false
set_option maxRecDepth 100000 in
theorem eqlAc (x y : Ac) (W : World) : (binOp .eql 53 (acv x) (acv y)).run Try.prog W = .ok (.bool (eqAc x y)) W := by
  rw [run_eql_struct]
  rw [show (10000 : Nat) = 9998 + 1 + 1 from rfl, run_equalIn_struct W (9998 + 1) _ _ _ (by kernel_rfl) (by kernel_rfl)]
  simp [Program.fieldsOf, Try.underlying53, Op.eqFields, go_sem, Try.underlying2]
  unfold eqAc
  by_cases h1 : x.kind = y.kind <;> by_cases h2 : x.arg = y.arg <;> simp [h1, h2]

set_option maxRecDepth 100000 in
set_option maxHeartbeats 1600000 in
theorem iIdle (x : Ac) (r : List Ac) (a : Option Addr) (cap : Nat) (w : World) (hP : AcAt w 0 w.heap.size r a) (hs : r.length ≤ 1048576) :
    Calls Try.prog 85 #[acv x, .slice a r.length cap] w fun e w' => e = .returned (.bool (idB x r)) ∧ Below w.heap.size w w' := by
  obtain ⟨kd, k⟩ := x
  unfold acv
  have B1 : ∀ (W : World) (o : Obj), Below W.heap.size W (W.alloc o) := fun W o => (Below.refl _ _).alloc (Nat.le_refl _) o
  by_cases h2 : kd = 2
  · subst h2
    have HF : Hid (idB ⟨2, k⟩ r = stF k r) := by show _ = _; unfold idB; rw [if_pos rfl]
    go_enter Try.func85, Try.ntmps85
    go_wp2_with fail
    obtain ⟨w0, hw0⟩ : ∃ w0, w0 = (w.alloc (.cells #[.int .i64 2, .int .i64 k] 53)).alloc (.cells #[.int .i64 3, .int .i64 k] 53) := ⟨_, rfl⟩
    have A0 : Below w.heap.size w w0 := by rw [hw0]; exact (B1 _ _).trans ((B1 _ _).mono (by simp))
    have x0 : w0.cell? ⟨w.heap.size, 0, none⟩ = some (.int .i64 2) := by rw [hw0]; simp [go_sem]
    have x1 : w0.cell? ⟨w.heap.size, 1, none⟩ = some (.int .i64 k) := by rw [hw0]; simp [go_sem]
    have y0 : w0.cell? ⟨w.heap.size + 1, 0, none⟩ = some (.int .i64 3) := by rw [hw0]; simp [go_sem]
    have y1 : w0.cell? ⟨w.heap.size + 1, 1, none⟩ = some (.int .i64 k) := by rw [hw0]; simp [go_sem]
    have z0 : w0.heap.size = w.heap.size + 1 + 1 := by rw [hw0]; simp
    try rw [← hw0]
    clear hw0
    go_loopw [17] (fun q wr => ∃ i : Nat, i ≤ r.length ∧ q = .int .i64 i ∧ Hid (stF k r = stF k (r.drop i)) ∧ Below w0.heap.size w0 wr) (fun q _ => r.length - (intOf q).toNat)
    case atStart => exact ⟨0, Nat.zero_le _, rfl, (by show stF k r = stF k (r.drop 0); rw [List.drop_zero]), Below.refl _ _⟩
    case round =>
      obtain ⟨i, hi, rfl, HG, hw⟩ := hrel
      have hb := A0.trans (hw.mono A0.size)
      have hsz := hw.size
      by_cases hlt : i < r.length
      · have hii : (i : Int) < (r.length : Int) := by omega
        obtain ⟨b, off, rfl, hbB, hall⟩ := ((hP.below hb).resolve_left (by intro e; rw [e] at hlt; simp at hlt))
        obtain ⟨hr, c0, c1⟩ := hall i hlt
        have hbB2 := hbB.2
        have x0' := (hw.cell (p := ⟨w.heap.size, 0, none⟩) (by show w.heap.size < _; omega)).trans x0
        have x1' := (hw.cell (p := ⟨w.heap.size, 1, none⟩) (by show w.heap.size < _; omega)).trans x1
        have y0' := (hw.cell (p := ⟨w.heap.size + 1, 0, none⟩) (by show w.heap.size + 1 < _; omega)).trans y0
        have y1' := (hw.cell (p := ⟨w.heap.size + 1, 1, none⟩) (by show w.heap.size + 1 < _; omega)).trans y1
        have hiN : (i : Int) < 9223372036854775806 := by omega
        have hb0 : w.heap.size < wr.heap.size := by omega
        have hb1 : w.heap.size + 1 < wr.heap.size := by omega
        have E1 := fun W => eqlAc (r.getD i noAc) ⟨3, k⟩ W
        have E2 := fun W => eqlAc (r.getD i noAc) ⟨2, k⟩ W
        have HS : Hid (stF k r = if eqAc (r.getD i noAc) ⟨3, k⟩ = true then false else if eqAc (r.getD i noAc) ⟨2, k⟩ = true then true else stF k (r.drop (i + 1))) := by
          show _ = _; rw [HG.out, drop_ac hlt]; rfl
        unfold acv at E1 E2
        have hn3 : eqAc (r.getD i noAc) ⟨3, k⟩ = true → eqAc (r.getD i noAc) ⟨2, k⟩ = false := by
          intro h; unfold eqAc at h ⊢; rw [Bool.and_eq_true] at h; have := eq_of_beq h.1; simp at this; simp [this]
        clear hall hr HG x0 x1 y0 y1
        generalize eqAc (r.getD i noAc) ⟨3, k⟩ = b1 at *
        generalize eqAc (r.getD i noAc) ⟨2, k⟩ = b2 at *
        generalize (r.getD i noAc).kind = kd at *
        generalize (r.getD i noAc).arg = ag at *
        have hw2 := Lib.hid (hw.trans ((B1 wr (.cells #[.int .i64 kd, .int .i64 ag] 53)).mono hsz))
        have hw3 := Lib.hid (hb.trans ((B1 wr (.cells #[.int .i64 kd, .int .i64 ag] 53)).mono hb.size))
        cases b1 with
        | true =>
          have e2 := hn3 rfl
          subst e2
          clear hn3
          go_wp2_with fail
          go_ret
          exact ⟨ret_bool (by rw [HF.out, HS.out]; simp), hw3.out⟩
        | false =>
          clear hn3
          cases b2 with
          | true =>
            go_wp2_with fail
            go_ret
            exact ⟨ret_bool (by rw [HF.out, HS.out]; simp), hw3.out⟩
          | false =>
            have HS2 : Hid (stF k r = stF k (r.drop (i + 1))) := by show _ = _; rw [HS.out]; simp
            clear HS
            go_wp2_with fail
            go_roundw
            case rel => exact ⟨i + 1, by omega, by go_num, HS2.out, hw2.out⟩
            case measure => simp [intOf]; omega
      · have hii : ¬ (i : Int) < (r.length : Int) := by omega
        have HS : Hid (stF k r = true) := by show _ = _; rw [HG.out, List.drop_eq_nil_of_le (by omega)]; rfl
        clear HG
        go_wp2_with fail
        go_ret
        exact ⟨ret_bool (by rw [HF.out, HS.out]), hb⟩
  · by_cases h13 : kd = 1 ∨ kd = 3
    · have HF : Hid (idB ⟨kd, k⟩ r = (decide (r.length = 0) || decide ((r.getD 0 noAc).kind = 3))) := by show _ = _; unfold idB; rw [if_neg h2, if_pos h13]
      by_cases hl : r.length = 0
      · have hl2 : (r.length : Int) = 0 := by omega
        have HF2 : Hid (idB ⟨kd, k⟩ r = true) := by show _ = _; rw [HF.out, decide_eq_true hl]; rfl
        clear HF h2 hP hl
        rcases h13 with rfl | rfl
        all_goals
          go_enter Try.func85, Try.ntmps85
          go_wp2_with fail
          go_ret
          exact ⟨ret_bool (by rw [HF2.out]), B1 _ _⟩
      · have hl2 : ¬ (r.length : Int) = 0 := by omega
        have hl3 : ((r.length : Int) == 0) = false := by simpa using hl2
        have hl4 : (0 : Int) < (r.length : Int) := by omega
        obtain ⟨b, off, rfl, hbB, hall⟩ := (hP.resolve_left (by intro e; rw [e] at hl; simp at hl))
        obtain ⟨hr, c0, c1⟩ := hall 0 (by omega)
        rw [Nat.zero_mul, Nat.add_zero] at c0
        have hbB2 := hbB.2
        have HF2 : Hid (idB ⟨kd, k⟩ r = decide ((r.getD 0 noAc).kind = 3)) := by show _ = _; rw [HF.out, decide_eq_false hl]; rfl
        clear HF h2 hP hl hall hr c1
        generalize (r.getD 0 noAc).kind = kq at *
        by_cases hq : kq = 3
        · subst hq
          rcases h13 with rfl | rfl
          all_goals
            go_enter Try.func85, Try.ntmps85
            go_wp2_with fail
            go_ret
            exact ⟨ret_bool (by rw [HF2.out]; rfl), B1 _ _⟩
        · have hqb : (kq == 3) = false := by simpa using hq
          rcases h13 with rfl | rfl
          all_goals
            go_enter Try.func85, Try.ntmps85
            go_wp2_with fail
            go_ret
            exact ⟨ret_bool (by rw [HF2.out]; simp [hq]), B1 _ _⟩
    · have HF : Hid (idB ⟨kd, k⟩ r = false) := by show _ = _; unfold idB; rw [if_neg h2, if_neg h13]
      have e1 : (kd == 1) = false := by simp; omega
      have e2 : (kd == 2) = false := by simp; omega
      have e3 : (kd == 3) = false := by simp; omega
      clear h2 h13
      go_enter Try.func85, Try.ntmps85
      go_wp2_with fail
      go_ret
      exact ⟨ret_bool (by rw [HF.out]), B1 _ _⟩

/-- the first idle action from place k on, or -1 -/
def firF (l : List Ac) : Nat → Nat → Int
  | 0, _ => -1
  | f + 1, k => if k < l.length then (if idB (l.getD k noAc) (l.drop (k + 1)) = true then (k : Int) else firF l f (k + 1)) else -1
def firB (l : List Ac) : Int := firF l l.length 0
theorem firF_end (l : List Ac) : ∀ f k, l.length ≤ k → firF l f k = -1
  | 0, _, _ => rfl
  | f + 1, k, h => by rw [firF, if_neg (by omega)]
theorem firF_step {l : List Ac} {k : Nat} (h : k < l.length) : firF l (l.length - k) k = if idB (l.getD k noAc) (l.drop (k + 1)) = true then (k : Int) else firF l (l.length - (k + 1)) (k + 1) := by
  rw [show l.length - k = (l.length - (k + 1)) + 1 by omega, firF, if_pos h]
theorem AcAt.sub {w : World} {L B b off k : Nat} {l : List Ac} (h : AcAt w L B l (some ⟨b, off, none⟩)) : AcAt w L B (l.drop k) (some ⟨b, off + k * 2, none⟩) := by
  rcases h with h | ⟨b', off', e, hb, hc⟩
  · left; rw [h, List.drop_nil]
  · simp only [Option.some.injEq, Addr.mk.injEq, and_true] at e
    obtain ⟨e1, e2⟩ := e; subst e1; subst e2
    refine .inr ⟨b, off + k * 2, rfl, hb, fun i hi => ?_⟩
    rw [List.length_drop] at hi
    have := hc (k + i) (by omega)
    rw [show (l.drop k).getD i noAc = l.getD (k + i) noAc by rw [List.getD_eq_getElem?_getD, List.getElem?_drop, List.getD_eq_getElem?_getD]]
    rw [show off + k * 2 + i * 2 = off + (k + i) * 2 by omega]
    exact this

set_option maxRecDepth 100000 in
set_option maxHeartbeats 1600000 in
theorem iFirstIdle (l : List Ac) (a : Option Addr) (cap : Nat) (hcap : l.length ≤ cap) (w : World) (hP : AcAt w 0 w.heap.size l a) (hs : l.length ≤ 1048576) :
    Calls Try.prog 69 #[.slice a l.length cap] w fun e w' => e = .returned (.int .i64 (firB l)) ∧ Below w.heap.size w w' := by
  have B1 : ∀ (W : World) (o : Obj), Below W.heap.size W (W.alloc o) := fun W o => (Below.refl _ _).alloc (Nat.le_refl _) o
  go_enter Try.func69, Try.ntmps69
  go_wp2_with fail
  go_loopw [7] (fun q wr => ∃ i : Nat, i ≤ l.length ∧ q = .int .i64 i ∧ Hid (firB l = firF l (l.length - i) i) ∧ Below w.heap.size w wr) (fun q _ => l.length - (intOf q).toNat)
  case atStart => exact ⟨0, Nat.zero_le _, rfl, (by show firB l = firF l (l.length - 0) 0; rfl), Below.refl _ _⟩
  case round =>
    obtain ⟨i, hi, rfl, HG, hw⟩ := hrel
    have hsz := hw.size
    by_cases hlt : i < l.length
    · have hii : (i : Int) < (l.length : Int) := by omega
      have hPw := hP.next hw
      obtain ⟨b, off, rfl, hbB, hall⟩ := (hPw.resolve_left (by intro e; rw [e] at hlt; simp at hlt))
      obtain ⟨hr, c0, c1⟩ := hall i hlt
      have hbB2 := hbB.2
      have hiN : (i : Int) < 9223372036854775806 := by omega
      have HS : Hid (firB l = if idB (l.getD i noAc) (l.drop (i + 1)) = true then (i : Int) else firF l (l.length - (i + 1)) (i + 1)) := by show _ = _; rw [HG.out, firF_step hlt]
      have hdl : (l.drop (i + 1)).length = l.length - (i + 1) := List.length_drop
      have HC := fun (W : World) (h : AcAt W 0 W.heap.size l (some ⟨b, off, none⟩)) => Lib.hid (iIdle (l.getD i noAc) (l.drop (i + 1)) (if cap = i + 1 then some ⟨b, off, none⟩ else some ⟨b, off + (i + 1) * 2, none⟩) (cap - (i + 1)) W (by
        by_cases hc : cap = i + 1
        · left; exact List.drop_eq_nil_of_le (by omega)
        · rw [if_neg hc]; exact h.sub) (by omega))
      rw [hdl] at HC
      obtain ⟨wb, hwb⟩ : ∃ wb, wb = wr.alloc (.cells #[.int .i64 (l.getD i noAc).kind, .int .i64 (l.getD i noAc).arg] 53) := ⟨_, rfl⟩
      have x0 : wb.cell? ⟨wr.heap.size, 0, none⟩ = some (.int .i64 (l.getD i noAc).kind) := by rw [hwb]; simp [go_sem]
      have x1 : wb.cell? ⟨wr.heap.size, 1, none⟩ = some (.int .i64 (l.getD i noAc).arg) := by rw [hwb]; simp [go_sem]
      have BB : Below wr.heap.size wr wb := by rw [hwb]; exact B1 _ _
      have zb : wb.heap.size = wr.heap.size + 1 := by rw [hwb]; simp
      have HP2 := Lib.hid (hPw.next BB)
      have HW2 := Lib.hid (hw.trans (BB.mono hsz))
      clear hall hr HG hdl hPw
      unfold acv at HC
      generalize (l.getD i noAc).kind = kd at *
      generalize (l.getD i noAc).arg = ag at *
      go_wp2_with fail
      rw [← hwb]
      clear hwb
      have HD := fun (W : World) (hb : Below wb.heap.size wb W) => HC W (HP2.out.next hb)
      clear HC
      generalize idB (l.getD i noAc) (l.drop (i + 1)) = bb at *
      have hj0 : (0 : Int) ≤ (i : Int) + 1 := by omega
      have hj1 : (i : Int) + 1 ≤ (l.length : Int) := by omega
      have hj2 : (i : Int) + 1 ≤ (cap : Int) := by omega
      have hj3 : IntKind.i64.wrap ((i : Int) + 1) = (i : Int) + 1 := IntWalk.i64_in _ (by omega)
      have lx : wr.heap.size < wb.heap.size := by omega
      obtain ⟨pp, hpp⟩ : ∃ pp, pp = (if cap = i + 1 then (some ⟨b, off, none⟩ : Option Addr) else some ⟨b, off + (i + 1) * 2, none⟩) := ⟨_, rfl⟩
      rw [← hpp] at HD
      have HPP := Lib.hid hpp.symm
      clear hpp
      go_region_with (go_at_call 85; rw [HPP.out]; refine (HD wb.drew (ckdrew (Below.refl _ _))).out.mono ?_; rintro e w2 ⟨rfl, hb2'⟩)
      all_goals
        have hb2 : Below wb.heap.size wb w2 := ⟨hb2'.os, hb2'.tape, hb2'.output, hb2'.size, hb2'.block⟩
        have hw3 : Below w.heap.size w w2 := HW2.out.trans (hb2.mono HW2.out.size)
        clear hb2 hb2' HD
        cases bb with
        | true =>
          have HS2 : Hid (firB l = i) := HS.out.trans (if_pos (by trivial))
          clear HS
          go_wp2_with fail
          go_ret
          exact ⟨ret_int HS2.out.symm, hw3⟩
        | false =>
          have HS2 : Hid (firB l = firF l (l.length - (i + 1)) (i + 1)) := HS.out.trans (if_neg (by simp))
          clear HS
          go_wp2_with fail
          go_roundw
          case rel => exact ⟨i + 1, by omega, by go_num, HS2.out, hw3⟩
          case measure => simp [intOf]; omega
    · have hii : ¬ (i : Int) < (l.length : Int) := by omega
      have HS : Hid (firB l = -1) := by show _ = _; rw [HG.out, firF_end _ _ _ (by omega)]
      clear HG
      go_wp2_with fail
      go_ret
      exact ⟨ret_int HS.out.symm, hw⟩

end Go.Proofs.Ytolpbflalbfhjaa
