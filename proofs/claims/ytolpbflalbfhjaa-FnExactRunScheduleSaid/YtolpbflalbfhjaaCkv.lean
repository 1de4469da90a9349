/- What a schedule uses, by the model. -/
import Derived.Test.YtolpbflalbfhjaaCku
import Derived.Test.YtolpbflalbfhjaaCkh
namespace Go.Proofs.Ytolpbflalbfhjaa
open Go.RowKit
set_option linter.unusedVariables false

/-- five numbers in a block -/
structure UAt (w : World) (U : Nat) (a b c d e : Int) : Prop where
  p0 : w.cell? ⟨U, 0, none⟩ = some (.int .i64 a)
  p1 : w.cell? ⟨U, 1, none⟩ = some (.int .i64 b)
  p2 : w.cell? ⟨U, 2, none⟩ = some (.int .i64 c)
  p3 : w.cell? ⟨U, 3, none⟩ = some (.int .i64 d)
  p4 : w.cell? ⟨U, 4, none⟩ = some (.int .i64 e)
  f0 : w.frozen? ⟨U, 0, none⟩ = false
  f1 : w.frozen? ⟨U, 1, none⟩ = false
  f2 : w.frozen? ⟨U, 2, none⟩ = false
  f3 : w.frozen? ⟨U, 3, none⟩ = false
  f4 : w.frozen? ⟨U, 4, none⟩ = false
  lt : U < w.heap.size
theorem UAt.keep {w w' : World} {U : Nat} {a b c d e : Int} {S : Nat → Prop} (h : UAt w U a b c d e) (k : Kp S w w') (hS : ¬ S U) : UAt w' U a b c d e :=
  ⟨k.cell h.p0 hS, k.cell h.p1 hS, k.cell h.p2 hS, k.cell h.p3 hS, k.cell h.p4 hS, (k.fz h.lt hS).trans h.f0, (k.fz h.lt hS).trans h.f1, (k.fz h.lt hS).trans h.f2, (k.fz h.lt hS).trans h.f3, (k.fz h.lt hS).trans h.f4, by have := k.size; have := h.lt; omega⟩
theorem UAt.next {w w' : World} {U : Nat} {a b c d e : Int} (h : UAt w U a b c d e) (hb : Below w.heap.size w w') : UAt w' U a b c d e := h.keep (S := fun _ => False) (Kp.of_below hb) id
theorem UAt.below {w w' : World} {U L : Nat} {a b c d e : Int} (h : UAt w U a b c d e) (hb : Below L w w') (hU : U < L) : UAt w' U a b c d e :=
  h.keep (S := fun k => L ≤ k) ⟨hb.os, hb.tape, hb.output, hb.size, fun k _ hn => hb.block k (by omega)⟩ (by omega)
section
variable {w : World} {U : Nat} {a b c d e : Int} (h : UAt w U a b c d e) (v : Int)
include h
theorem UAt.s0 : UAt (w.setCell ⟨U, 0, none⟩ (.int .i64 v)) U v b c d e := by
  obtain ⟨p0, p1, p2, p3, p4, f0, f1, f2, f3, f4, lt⟩ := h
  refine ⟨World.cell?_setCell_same _ _ _ p0, ?_, ?_, ?_, ?_, by rw [World.frozen?_setCell]; exact f0, by rw [World.frozen?_setCell]; exact f1, by rw [World.frozen?_setCell]; exact f2, by rw [World.frozen?_setCell]; exact f3, by rw [World.frozen?_setCell]; exact f4, by simpa using lt⟩
  all_goals (rw [World.cell?_setCell_other _ _ _ _ (by intro e; simp only [Addr.mk.injEq] at e; omega)]; assumption)
theorem UAt.s1 : UAt (w.setCell ⟨U, 1, none⟩ (.int .i64 v)) U a v c d e := by
  obtain ⟨p0, p1, p2, p3, p4, f0, f1, f2, f3, f4, lt⟩ := h
  refine ⟨?_, World.cell?_setCell_same _ _ _ p1, ?_, ?_, ?_, by rw [World.frozen?_setCell]; exact f0, by rw [World.frozen?_setCell]; exact f1, by rw [World.frozen?_setCell]; exact f2, by rw [World.frozen?_setCell]; exact f3, by rw [World.frozen?_setCell]; exact f4, by simpa using lt⟩
  all_goals (rw [World.cell?_setCell_other _ _ _ _ (by intro e; simp only [Addr.mk.injEq] at e; omega)]; assumption)
theorem UAt.s2 : UAt (w.setCell ⟨U, 2, none⟩ (.int .i64 v)) U a b v d e := by
  obtain ⟨p0, p1, p2, p3, p4, f0, f1, f2, f3, f4, lt⟩ := h
  refine ⟨?_, ?_, World.cell?_setCell_same _ _ _ p2, ?_, ?_, by rw [World.frozen?_setCell]; exact f0, by rw [World.frozen?_setCell]; exact f1, by rw [World.frozen?_setCell]; exact f2, by rw [World.frozen?_setCell]; exact f3, by rw [World.frozen?_setCell]; exact f4, by simpa using lt⟩
  all_goals (rw [World.cell?_setCell_other _ _ _ _ (by intro e; simp only [Addr.mk.injEq] at e; omega)]; assumption)
theorem UAt.s3 : UAt (w.setCell ⟨U, 3, none⟩ (.int .i64 v)) U a b c v e := by
  obtain ⟨p0, p1, p2, p3, p4, f0, f1, f2, f3, f4, lt⟩ := h
  refine ⟨?_, ?_, ?_, World.cell?_setCell_same _ _ _ p3, ?_, by rw [World.frozen?_setCell]; exact f0, by rw [World.frozen?_setCell]; exact f1, by rw [World.frozen?_setCell]; exact f2, by rw [World.frozen?_setCell]; exact f3, by rw [World.frozen?_setCell]; exact f4, by simpa using lt⟩
  all_goals (rw [World.cell?_setCell_other _ _ _ _ (by intro e; simp only [Addr.mk.injEq] at e; omega)]; assumption)
theorem UAt.s4 : UAt (w.setCell ⟨U, 4, none⟩ (.int .i64 v)) U a b c d v := by
  obtain ⟨p0, p1, p2, p3, p4, f0, f1, f2, f3, f4, lt⟩ := h
  refine ⟨?_, ?_, ?_, ?_, World.cell?_setCell_same _ _ _ p4, by rw [World.frozen?_setCell]; exact f0, by rw [World.frozen?_setCell]; exact f1, by rw [World.frozen?_setCell]; exact f2, by rw [World.frozen?_setCell]; exact f3, by rw [World.frozen?_setCell]; exact f4, by simpa using lt⟩
  all_goals (rw [World.cell?_setCell_other _ _ _ _ (by intro e; simp only [Addr.mk.injEq] at e; omega)]; assumption)
end
theorem uat_new (w : World) (t : TypeId) : UAt (w.alloc (.cells #[.int .i64 0, .int .i64 0, .int .i64 0, .int .i64 0, .int .i64 0] t)) w.heap.size 0 0 0 0 0 :=
  ⟨by simp [go_sem], by simp [go_sem], by simp [go_sem], by simp [go_sem], by simp [go_sem], by simp [go_sem], by simp [go_sem], by simp [go_sem], by simp [go_sem], by simp [go_sem], by simp⟩
theorem OwnA.keepS {L : Nat} {w w' : World} {a : Option Addr} {cap : Nat} {l : List Int} {S : Nat → Prop} (h : OwnA L w a cap l) (k : Kp S w w') (hS : ∀ g, L ≤ g → ¬ S g) : OwnA L w' a cap l := by
  rcases h with h | ⟨g, rfl, ho⟩
  · exact .inl h
  · exact .inr ⟨g, rfl, ho.keep k (hS g ho.base.1)⟩
/-- what bounds the sums -/
theorem sumW_bd {w : List Int} (hw : ∀ k, 0 ≤ w.getD k 0 ∧ w.getD k 0 ≤ 1000) (c : Nat) : ∀ j, 0 ≤ sumW w c j ∧ sumW w c j ≤ 1000 * j
  | 0 => by rw [sumW]; omega
  | j + 1 => by have h1 := sumW_bd hw c j; have h2 := hw (c + j); rw [sumW]; omega
structure Ubd (k : Nat) (u : Us) : Prop where
  cost : 0 ≤ u.cost ∧ u.cost ≤ 40000 * k
  adv : 0 ≤ u.adv ∧ u.adv ≤ 40 * k
  st : 0 ≤ u.st ∧ u.st ≤ k
  ld : 0 ≤ u.ld ∧ u.ld ≤ k
  into : u.into.length ≤ k
theorem ubd0 : Ubd 0 us0 := ⟨by simp [us0], by simp [us0], by simp [us0], by simp [us0], by simp [us0]⟩
theorem Ubd.step {w : List Int} (hw : ∀ k, 0 ≤ w.getD k 0 ∧ w.getD k 0 ≤ 1000) {k : Nat} {u : Us} (h : Ubd k u) (s : Cs) {x : Ac} (hx : acB x = true) : Ubd (k + 1) (stepU w s x u) := by
  obtain ⟨h1, h2, h3, h4, h5⟩ := h
  rcases ac_cases hx with ⟨y, rfl, y0, y1⟩ | ⟨y, rfl, y0, y1⟩ | ⟨y, rfl, y0, y1⟩ | rfl
  · have := sumW_bd hw s.cur.toNat y.toNat
    exact ⟨by show 0 ≤ u.cost + sumW w s.cur.toNat y.toNat ∧ u.cost + sumW w s.cur.toNat y.toNat ≤ _; omega, by show 0 ≤ u.adv + y ∧ u.adv + y ≤ _; omega, by show 0 ≤ u.st ∧ u.st ≤ _; omega, by show 0 ≤ u.ld ∧ u.ld ≤ _; omega, by show u.into.length ≤ _; omega⟩
  · exact ⟨by show 0 ≤ u.cost ∧ u.cost ≤ _; omega, by show 0 ≤ u.adv ∧ u.adv ≤ _; omega, by show 0 ≤ u.st + 1 ∧ u.st + 1 ≤ _; omega, by show 0 ≤ u.ld ∧ u.ld ≤ _; omega, by show (putL u.into y).length ≤ _; have := putL_len u.into y; omega⟩
  · exact ⟨by show 0 ≤ u.cost ∧ u.cost ≤ _; omega, by show 0 ≤ u.adv ∧ u.adv ≤ _; omega, by show 0 ≤ u.st ∧ u.st ≤ _; omega, by show 0 ≤ u.ld + 1 ∧ u.ld + 1 ≤ _; omega, by show u.into.length ≤ _; omega⟩
  · exact ⟨by show 0 ≤ u.cost ∧ u.cost ≤ _; omega, by show 0 ≤ u.adv ∧ u.adv ≤ _; omega, by show 0 ≤ u.st ∧ u.st ≤ _; omega, by show 0 ≤ u.ld ∧ u.ld ≤ _; omega, by show u.into.length ≤ _; omega⟩
/-- all that holds of the model's numbers behind k actions -/
structure Uin (n m : Nat) (wt : List Int) (l : List Ac) (k : Nat) (s : Cs) (u : Us) : Prop where
  far : goU wt (cs0 n m) us0 l = goU wt s u (l.drop k)
  bd : Ubd k u
  rng : Rng u.into
theorem Uin.step {n m : Nat} {wt : List Int} {l : List Ac} {k : Nat} {s : Cs} {u : Us} (h : Uin n m wt l k s u) (hw : ∀ k, 0 ≤ wt.getD k 0 ∧ wt.getD k 0 ≤ 1000) (hk : k < l.length) (hx : acB (l.getD k noAc) = true) :
    Uin n m wt l (k + 1) (actS s (l.getD k noAc)) (stepU wt s (l.getD k noAc) u) := by
  refine ⟨by rw [h.far, drop_ac hk]; rfl, h.bd.step hw s hx, ?_⟩
  rcases ac_cases hx with ⟨y, e, y0, y1⟩ | ⟨y, e, y0, y1⟩ | ⟨y, e, y0, y1⟩ | e
  · rw [e]; exact h.rng
  · rw [e]; exact putL_rng h.rng (by show -9223372036854775808 ≤ y ∧ y ≤ 9223372036854775807; omega)
  · rw [e]; exact h.rng
  · rw [e]; exact h.rng

/-- five cells of a block written -/
def put5c (W : World) (R : Nat) (v0 v1 v2 v3 v4 : Value) : World := (((((W.setCell ⟨R, 0, none⟩ v0).setCell ⟨R, 1, none⟩ v1).setCell ⟨R, 2, none⟩ v2).setCell ⟨R, 3, none⟩ v3).setCell ⟨R, 4, none⟩ v4)
theorem put5c_at {W : World} {R : Nat} {a b c d e : Int} (h : UAt W R a b c d e) (x0 x1 x2 x3 x4 : Int) : UAt (put5c W R (.int .i64 x0) (.int .i64 x1) (.int .i64 x2) (.int .i64 x3) (.int .i64 x4)) R x0 x1 x2 x3 x4 :=
  ((((h.s0 x0).s1 x1).s2 x2).s3 x3).s4 x4
theorem put5c_kp (W : World) (R : Nat) (v0 v1 v2 v3 v4 : Value) : Kp (fun i => i = R) W (put5c W R v0 v1 v2 v3 v4) :=
  ((((Kp.set (S := fun i => i = R) (p := ⟨R, 0, none⟩) rfl).trans (Kp.set (S := fun i => i = R) (p := ⟨R, 1, none⟩) rfl)).trans (Kp.set (S := fun i => i = R) (p := ⟨R, 2, none⟩) rfl)).trans (Kp.set (S := fun i => i = R) (p := ⟨R, 3, none⟩) rfl)).trans (Kp.set (S := fun i => i = R) (p := ⟨R, 4, none⟩) rfl)
/-- the numbers as a value -/
abbrev usv (a b c d e : Int) : Value := .agg #[.int .i64 a, .int .i64 b, .int .i64 c, .int .i64 d, .int .i64 e]
def UsedP (u : Us) (w : World) (e : Ending) (w' : World) : Prop := e = .returned (usv u.cost u.adv u.st u.ld u.into.length) ∧ Below w.heap.size w w'

set_option maxRecDepth 100000 in
set_option maxHeartbeats 6400000 in
theorem sUsed (n m : Nat) (hn : n ≤ 40) (hm : m ≤ 8) (l : List Ac) (hl : schB l = true) (hall : allB (cs0 n m) l = true) (wt : List Int) (hwl : wt.length = n) (hwb : ∀ k, 0 ≤ wt.getD k 0 ∧ wt.getD k 0 ≤ 1000)
    (a : Option Addr) (cap : Nat) (aw : Option Addr) (capw : Nat) (w : World) (hP : AcAt w 0 w.heap.size l a) (hW : At w aw wt) :
    Calls Try.prog 65 #[.slice a l.length cap, .slice aw n capw, .int .i64 m] w (UsedP (goU wt (cs0 n m) us0 l) w) := by
  have hll := (schB_t hl).1
  have HALL := Lib.hid hall
  have HAC := Lib.hid (fun i hi => schB_ac hl i hi)
  have HWB := Lib.hid hwb
  have HWL := Lib.hid hwl
  have hU0 := uat_new (w.alloc (.cells #[.int .i64 0, .int .i64 0, .int .i64 0, .int .i64 0, .int .i64 0] 43)) 43
  have hR0 := uat_new w 43
  clear hl hall hwb hwl
  go_enter Try.func65, Try.ntmps65
  go_wp2_with fail
  obtain ⟨w0, hw0⟩ : ∃ w0, w0 = (w.alloc (.cells #[.int .i64 0, .int .i64 0, .int .i64 0, .int .i64 0, .int .i64 0] 43)).alloc (.cells #[.int .i64 0, .int .i64 0, .int .i64 0, .int .i64 0, .int .i64 0] 43) := ⟨_, rfl⟩
  have A0 : Below w.heap.size w w0 := by rw [hw0]; exact ((Below.refl _ _).alloc (Nat.le_refl _) _).alloc (by simp) _
  have z0 : w0.heap.size = w.heap.size + 1 + 1 := by rw [hw0]; simp
  have HU := Lib.hid (show UAt w0 (w.heap.size + 1) 0 0 0 0 0 by
    rw [hw0]; have := hU0; rwa [show (w.alloc (.cells #[.int .i64 0, .int .i64 0, .int .i64 0, .int .i64 0, .int .i64 0] 43)).heap.size = w.heap.size + 1 by simp] at this)
  have HZ := Lib.hid (show UAt w0 w.heap.size 0 0 0 0 0 by
    rw [hw0]; exact hR0.next ((Below.refl _ _).alloc (Nat.le_refl _) _))
  rw [← hw0]
  clear hw0 hU0 hR0
  refine (sBegin n m hm w0).mono ?_; rintro e w1 ⟨B, ar, cr, rfl, HR, hb⟩
  have HR0 := Lib.hid HR
  have HU1 := Lib.hid (HU.out.next hb)
  have HZ1 := Lib.hid (HZ.out.next hb)
  have hw1 := A0.trans (hb.mono A0.size)
  have hs1 := hb.size
  have Hhi : Hid (∀ k, RunBk B ar k → k < w1.heap.size) := by
    intro k hk
    rcases hk with rfl | ⟨p, hp, rfl⟩
    · exact HR.lt.2
    · exact (HR.own.blk p hp).2
  have Hlo := Lib.hid HR.lo
  clear HR hb HU HZ
  go_wp2_with fail
  have O0 : OwnA w1.heap.size (w1.alloc (.cells #[] 2)) (some ⟨w1.heap.size, 0, none⟩) 0 [] := .inl rfl
  obtain ⟨w2, hw2⟩ : ∃ w2, w2 = w1.alloc (.cells #[] 2) := ⟨_, rfl⟩
  have hb2 : Below w1.heap.size w1 w2 := by rw [hw2]; exact (Below.refl _ _).alloc (Nat.le_refl _) _
  rw [← hw2] at O0 ⊢
  have hs2 : w1.heap.size < w2.heap.size := by rw [hw2]; simp
  clear hw2
  have HR2 := Lib.hid (HR0.out.next hb2)
  have HU2 := Lib.hid (HU1.out.next hb2)
  have HZ2 := Lib.hid (HZ1.out.next hb2)
  have hw2 := hw1.trans (hb2.mono hw1.size)
  clear HR0 HU1 HZ1 hb2
  go_loopw [9, 10] (fun v q wr => ∃ (i : Nat) (s : Cs) (adv : List Int) (u : Us) (aI : Option Addr) (cI : Nat), i ≤ l.length ∧ q = .int .i64 i ∧ v = .slice aI u.into.length cI ∧ Hid (Fin n m l i s adv) ∧ Hid (Uin n m wt l i s u) ∧ Hid (RunAt wr w0.heap.size B s ar cr) ∧ Hid (UAt wr (w.heap.size + 1) u.cost u.adv u.st u.ld 0) ∧ Hid (UAt wr w.heap.size 0 0 0 0 0) ∧ Hid (OwnA w1.heap.size wr aI cI u.into) ∧ w1.heap.size < wr.heap.size ∧ Below w.heap.size w wr) (fun _ q _ => l.length - (intOf q).toNat)
  case atStart => exact ⟨0, cs0 n m, List.replicate n 0, us0, _, _, Nat.zero_le _, rfl, rfl, fin0 n m l, ⟨by rw [List.drop_zero], ubd0, fun x hx => absurd hx (by simp [us0])⟩, HR2.out, HU2.out, HZ2.out, O0, hs2, hw2⟩
  case round =>
    obtain ⟨i, s, adv, u, aI, cI, hi, rfl, rfl, HF, HI, HR, HU, HZ, HO, hsz1, hw⟩ := hrel
    clear HR2 HU2 HZ2 O0 hs2 hw2
    have hsz := hw.size
    by_cases hlt : i < l.length
    · have hii : (i : Int) < (l.length : Int) := by omega
      obtain ⟨b, off, rfl, hbB, hall⟩ := ((hP.below hw).resolve_left (by intro e; rw [e] at hlt; simp at hlt))
      obtain ⟨hr, c0, c1⟩ := hall i hlt
      have hac := HAC.out i hlt
      have hp := allB_pos HALL.out HF.out.far hlt
      have b0 : 0 ≤ s.cur ∧ s.cur ≤ 40 := ⟨HF.out.iv.c0, by have := HF.out.iv.c1; omega⟩
      have HAct := fun (W : World) (hR : RunAt W w0.heap.size B s ar cr) => Lib.hid (sAct s (l.getD i noAc) hac hp b0 w0.heap.size B ar cr W hR)
      have HN := Lib.hid (HF.out.step hlt hac hp)
      have HM := Lib.hid (HI.out.step HWB.out hlt hac)
      have hbB2 := hbB.2
      clear hall hr
      have BX : ∀ (W : World) (o : Obj), Below W.heap.size W (W.alloc o) := fun W o => (Below.refl _ _).alloc (Nat.le_refl _) o
      have hiN : (i : Int) < 9223372036854775806 := by omega
      have hi4 : i ≤ 400 := by omega
      have ub := HI.out.bd
      have HRG := Lib.hid HI.out.rng
      have HFc := HF.out
      rcases ac_cases hac with ⟨y, e, y0, y1⟩ | ⟨y, e, y0, y1⟩ | ⟨y, e, y0, y1⟩ | e
      all_goals
        rw [e] at c0 c1 HAct HN HM
        simp only at c0 c1
        clear hac
      · -- advance
        have hcst := ub.cost
        have hadv := ub.adv
        have hpl : s.cur + y < s.left := by rw [e, posB_1] at hp; exact of_decide_eq_true hp
        have hl1 := HF.out.iv.l1
        obtain ⟨c, hc⟩ : ∃ c : Nat, s.cur = c := ⟨s.cur.toNat, by omega⟩
        obtain ⟨y, rfl⟩ : ∃ z : Nat, y = z := ⟨y.toNat, by omega⟩
        have hcy : c + y < n := by omega
        have HST : Hid (stepU wt s ⟨1, y⟩ u = ⟨u.cost + sumW wt c y, u.adv + y, u.st, u.ld, u.into⟩) := by
          show (⟨u.cost + sumW wt s.cur.toNat y, u.adv + y, u.st, u.ld, u.into⟩ : Us) = _; rw [hc]; rfl
        rw [HST.out] at HM
        obtain ⟨wo, hwo⟩ : ∃ wo, wo = wr.alloc (.cells #[.int .i64 1, .int .i64 y] 53) := ⟨_, rfl⟩
        have BB : Below wr.heap.size wr wo := by rw [hwo]; exact BX _ _
        have x0 : wo.cell? ⟨wr.heap.size, 0, none⟩ = some (.int .i64 1) := by rw [hwo]; simp [go_sem]
        have x1 : wo.cell? ⟨wr.heap.size, 1, none⟩ = some (.int .i64 y) := by rw [hwo]; simp [go_sem]
        have zb : wo.heap.size = wr.heap.size + 1 := by rw [hwo]; simp
        have HRo := Lib.hid (HR.out.next BB)
        have HZo := Lib.hid (HZ.out.next BB)
        have HOo := Lib.hid (OwnA.below HO.out BB)
        have HBo := Lib.hid (hw.trans (BB.mono hsz))
        have HUo := Lib.hid (HU.out.next BB)
        have r0b : wr.cell? ⟨B, 0, none⟩ = some (.int .i64 c) := by rw [← hc]; exact HR.out.c0
        have r0 : wo.cell? ⟨B, 0, none⟩ = some (.int .i64 c) := by rw [← hc]; exact HRo.out.c0
        have hrl := HRo.out.lt.2
        have hrl2 := HR.out.lt.2
        have hBlo := Hlo.out B (.inl rfl)
        have HUI0 : Hid (UAt wo (w.heap.size + 1) (u.cost + sumW wt c 0) u.adv u.st u.ld 0) := by show UAt _ _ _ _ _ _ _; rw [sumW, Int.add_zero]; exact HUo.out
        have HK0 : Hid (Kp (fun k => k = w.heap.size + 1) wo wo) := Kp.refl _ _
        obtain ⟨bw, ow, rfl, hbw, hcw⟩ := (hW.resolve_left (by intro e; have := HWL.out; rw [e] at this; simp at this; omega))
        have HCW := Lib.hid (show ∀ k, k < n → wo.cell? ⟨bw, ow + k, none⟩ = some (.int .i64 (wt.getD k 0)) from fun k hk => (HBo.out.cell (p := ⟨bw, ow + k, none⟩) hbw).trans (hcw k (by rw [HWL.out]; exact hk)))
        clear hcw
        clear HR HU HZ HO BB HF HFc HI ub hp hpl hl1 HUo e
        go_wp2_with fail
        rw [← hwo]
        obtain ⟨bx, hbx⟩ : ∃ bx : Nat, bx = wr.heap.size := ⟨_, rfl⟩
        rw [← hbx] at x0 x1 zb ⊢
        have hbx2 : w1.heap.size < bx := by omega
        clear hwo c0 c1 r0b hbx
        go_loopw [12] (fun q wi => ∃ j : Nat, j ≤ y ∧ q = .int .i64 ((c + j : Nat) : Int) ∧ Hid (UAt wi (w.heap.size + 1) (u.cost + sumW wt c j) u.adv u.st u.ld 0) ∧ Hid (Kp (fun k => k = w.heap.size + 1) wo wi)) (fun q _ => c + y - (intOf q).toNat)
        case atStart => exact ⟨0, Nat.zero_le _, rfl, HUI0.out, HK0.out⟩
        case round =>
          obtain ⟨j, hj, rfl, HUI, HK⟩ := hrel
          clear HUI0 HK0
          have x0i := HK.out.cell x0 (by omega)
          have x1i := HK.out.cell x1 (by omega)
          have r0i := HK.out.cell r0 (by omega)
          have e1 : IntKind.i64.wrap ((c : Int) + (y : Int)) = (c : Int) + (y : Int) := IntWalk.i64_in _ (by omega)
          by_cases hjl : j < y
          · have hjy : ((c + j : Nat) : Int) < (c : Int) + (y : Int) := by omega
            have hv := HK.out.cell (HCW.out (c + j) (by omega)) (by omega)
            have hvb := HWB.out (c + j)
            have hsb := sumW_bd HWB.out c j
            have HUn := fun (k : Nat) => Lib.hid (show UAt ((wr.drewN k).setCell ⟨w.heap.size + 1, 0, none⟩ (.int .i64 (u.cost + sumW wt c j + wt.getD (c + j) 0))) (w.heap.size + 1) (u.cost + sumW wt c (j + 1)) u.adv u.st u.ld 0 by
              have := (HUI.out.next (below_drewN (Below.refl _ _) k)).s0 (u.cost + sumW wt c (j + 1))
              rw [show u.cost + sumW wt c j + wt.getD (c + j) 0 = u.cost + sumW wt c (j + 1) by rw [sumW]; omega]; exact this)
            have HKn := fun (k : Nat) => Lib.hid (show Kp (fun k => k = w.heap.size + 1) wo ((wr.drewN k).setCell ⟨w.heap.size + 1, 0, none⟩ (.int .i64 (u.cost + sumW wt c j + wt.getD (c + j) 0))) from (HK.out.trans (Kp.of_below (below_drewN (Below.refl _ _) k))).trans (Kp.set (S := fun k => k = w.heap.size + 1) (p := ⟨w.heap.size + 1, 0, none⟩) rfl))
            obtain ⟨p0, _, _, _, _, f0, _, _, _, _, ult⟩ := HUI.out
            have q0 : 0 ≤ u.cost + sumW wt c j := by omega
            have q1 : u.cost + sumW wt c j ≤ 100000000 := by omega
            have e2 : IntKind.i64.wrap (u.cost + sumW wt c j + wt.getD (c + j) 0) = u.cost + sumW wt c j + wt.getD (c + j) 0 := IntWalk.i64_in _ (by omega)
            have hq1 : ((c + j : Nat) : Int) < (n : Int) := by omega
            have hq0 : 0 ≤ ((c + j : Nat) : Int) := by omega
            have hq2 : ((c + j : Nat) : Int) ≤ 80 := by omega
            have HJ : Hid (((c + j : Nat) : Int) + 1 = ((c + (j + 1) : Nat) : Int)) := by show _ = _; omega
            clear HUI HK hsb
            generalize u.cost + sumW wt c j = z at *
            generalize wt.getD (c + j) 0 = v at *
            generalize hcj : c + j = p at *
            have HCJ := Lib.hid hcj
            clear hcj
            go_wp2_with fail
            go_quiet (fail)
            go_wp2_with fail
            go_region
            all_goals
              go_wp2_with fail
              go_roundw
              case rel => exact ⟨j + 1, by omega, by rw [HJ.out], (HUn _).out, (HKn _).out⟩
              case measure => have := HCJ.out; simp [intOf]; omega
          · have hjy : ¬ ((c + j : Nat) : Int) < (c : Int) + (y : Int) := by omega
            have HJ : Hid (j = y) := by show _ = _; omega
            have HUe : Hid (UAt wr (w.heap.size + 1) (u.cost + sumW wt c y) u.adv u.st u.ld 0) := by have := HUI.out; rw [HJ.out] at this; exact this
            have HRe := Lib.hid (HRo.out.keep HK.out (fun k hk hh => by have := Hlo.out k hk; omega))
            have HZe := Lib.hid (HZo.out.keep HK.out (by omega))
            have HOe := Lib.hid (OwnA.keepS HOo.out HK.out (fun g hg hh => by omega))
            have HBe := Lib.hid (HBo.out.trans (HK.out.below (L := w.heap.size) (by have := HBo.out.size; omega) (fun k hk => by omega)))
            have zk := HK.out.size
            have D := fun k => below_drewN (Below.refl wr.heap.size wr) k
            have HUd := fun (k : Nat) => Lib.hid (show UAt ((wr.drewN k).setCell ⟨w.heap.size + 1, 1, none⟩ (.int .i64 (u.adv + y))) (w.heap.size + 1) (u.cost + sumW wt c y) (u.adv + y) u.st u.ld 0 from (HUe.out.next (D k)).s1 (u.adv + y))
            have KD := fun (k : Nat) => (Kp.of_below (S := fun k => k = w.heap.size + 1) (D k)).trans (Kp.set (S := fun k => k = w.heap.size + 1) (p := ⟨w.heap.size + 1, 1, none⟩) (v := .int .i64 (u.adv + y)) rfl)
            have HRd := fun (k : Nat) => Lib.hid (HRe.out.keep (KD k) (fun k hk hh => by have := Hlo.out k hk; omega))
            have HZd := fun (k : Nat) => Lib.hid (HZe.out.keep (KD k) (by omega))
            have HOd := fun (k : Nat) => Lib.hid (OwnA.keepS HOe.out (KD k) (fun g hg hh => by omega))
            have HBd := fun (k : Nat) => Lib.hid (HBe.out.trans ((KD k).below (L := w.heap.size) (by have := HBe.out.size; omega) (fun k hk => by omega)))
            obtain ⟨_, p1, _, _, _, _, f1, _, _, _, ult⟩ := HUe.out
            have e3 : IntKind.i64.wrap (u.adv + (y : Int)) = u.adv + (y : Int) := IntWalk.i64_in _ (by omega)
            clear HUI HK HRe HZe HOe HUe HBe HRo HZo HOo HBo HCW KD D HJ
            have hq0 : 0 ≤ ((c + j : Nat) : Int) := by omega
            have hq2 : ((c + j : Nat) : Int) ≤ 80 := by omega
            generalize ((c + j : Nat) : Int) = p at *
            go_wp2_with fail
            go_quiet (fail)
            rename_i nq
            have hjz : decide (p < (c : Int) + (y : Int)) = false := decide_eq_false (by omega)
            rw [hjz]
            have HRe := HRd nq
            have HUe := HUd nq
            have HZe := HZd nq
            have HOe := HOd nq
            have HBe := HBd nq
            have HAe := HAct _ HRe.out
            have hze : wr.heap.size ≤ ((wr.drewN nq).setCell ⟨w.heap.size + 1, 1, none⟩ (.int .i64 (u.adv + y))).heap.size := by simp
            clear hjy hjz HRd HUd HZd HOd HBd HAct
            go_wp2_with fail
            refine HAe.out.mono ?_; rintro e w7 ⟨rfl, HR7, hk7⟩
            have HR8 := Lib.hid HR7
            have HU7 := Lib.hid (HUe.out.keep hk7 (fun hh => by have := Hlo.out _ hh; omega))
            have HZ7 := Lib.hid (HZe.out.keep hk7 (fun hh => by have := Hlo.out _ hh; omega))
            have HO7 := Lib.hid (OwnA.keepS HOe.out hk7 (fun g hg hh => by have := Hhi.out _ hh; omega))
            have hw7 := HBe.out.trans (hk7.below (by have := HBe.out.size; omega) (fun k hk => by have := Hlo.out k hk; omega))
            have hz7 := hk7.size
            clear HAe HR7 hk7 HRe HUe HZe HOe HBe p1 f1 x0i x1i r0i
            go_wp2_with fail
            go_roundw
            case rel => exact ⟨i + 1, _, _, ⟨u.cost + sumW wt c y, u.adv + y, u.st, u.ld, u.into⟩, _, _, by omega, by go_num, rfl, HN.out, HM.out, HR8.out, HU7.out, HZ7.out, HO7.out, by first | omega | (simp at hz7; omega), hw7⟩
            case measure => simp [intOf]; omega
      · -- store
        have hst := ub.st
        have hin := ub.into
        obtain ⟨w3, hw3⟩ : ∃ w3, w3 = wr.setCell ⟨w.heap.size + 1, 2, none⟩ (.int .i64 (u.st + 1)) := ⟨_, rfl⟩
        have K3 : Kp (fun k => k = w.heap.size + 1) wr w3 := by rw [hw3]; exact Kp.set rfl
        have HR3 := HR.out.keep K3 (fun k hk hh => by have := Hlo.out k hk; omega)
        have HU3 : UAt w3 (w.heap.size + 1) u.cost u.adv (u.st + 1) u.ld 0 := by rw [hw3]; exact HU.out.s2 _
        have HZ3 := HZ.out.keep K3 (by omega)
        have HO3 := OwnA.keepS HO.out K3 (fun g hg hh => by omega)
        have hw3b := hw.trans (K3.below (by omega) (fun k hk => by show w.heap.size ≤ k; omega))
        have z3 := K3.size
        obtain ⟨p0, p1, p2, p3, p4, f0, f1, f2, f3, f4, ult⟩ := HU.out
        obtain ⟨wb, hwb⟩ : ∃ wb, wb = w3.alloc (.cells #[.int .i64 2, .int .i64 y] 53) := ⟨_, rfl⟩
        have BB : Below w3.heap.size w3 wb := by rw [hwb]; exact BX _ _
        have x0 : wb.cell? ⟨wr.heap.size, 0, none⟩ = some (.int .i64 2) := by rw [hwb, hw3]; simp [go_sem]
        have x1 : wb.cell? ⟨wr.heap.size, 1, none⟩ = some (.int .i64 y) := by rw [hwb, hw3]; simp [go_sem]
        have zb : wb.heap.size = wr.heap.size + 1 := by rw [hwb, hw3]; simp
        have HRt := Lib.hid (HR3.next BB)
        have HUt := Lib.hid (HU3.next BB)
        have HZt := Lib.hid (HZ3.next BB)
        have HOt := Lib.hid (OwnA.below HO3 BB)
        have HBt := Lib.hid (hw3b.trans (BB.mono hw3b.size))
        rw [hw3] at hwb
        clear HR HU HZ HO HR3 HU3 HZ3 HO3 hw3b BB hw3 K3 HF HFc HI ub hp e
        go_wp2_with fail
        rw [← hwb]
        clear hwb p0 p1 p2 p3 p4 f0 f1 f2 f3 f4 ult
        refine (sPut aI cI u.into y wb (HOt.out.at) HRG.out (by omega)).mono ?_; rintro e w6 ⟨g6, c6, rfl, o6, hb6⟩
        have x0' := ((tbcell hb6).1 wr.heap.size 0 (by omega)).trans x0
        have x1' := ((tbcell hb6).1 wr.heap.size 1 (by omega)).trans x1
        have HRc := Lib.hid (HRt.out.next hb6)
        have HUc := Lib.hid (HUt.out.next hb6)
        have HZc := Lib.hid (HZt.out.next hb6)
        have HOc : Hid (OwnA w1.heap.size w6 (some ⟨g6, 0, none⟩) c6 (putL u.into y)) := (o6.mono (by omega)).a
        have HBc := Lib.hid (HBt.out.trans (hb6.mono HBt.out.size))
        have z6 := hb6.size
        clear HRt HUt HZt HOt HBt o6 hb6 x0 x1
        go_wp2_with fail
        refine (HAct w6 HRc.out).out.mono ?_; rintro e w7 ⟨rfl, HR7, hk7⟩
        have HR8 := Lib.hid HR7
        have HU7 := Lib.hid (HUc.out.keep hk7 (fun hh => by have := Hlo.out _ hh; omega))
        have HZ7 := Lib.hid (HZc.out.keep hk7 (fun hh => by have := Hlo.out _ hh; omega))
        have HO7 := Lib.hid (OwnA.keepS HOc.out hk7 (fun g hg hh => by have := Hhi.out _ hh; omega))
        have hw7 := (HBc.out).trans (hk7.below (by have := (HBc.out).size; omega) (fun k hk => by have := Hlo.out k hk; omega))
        have hz7 := hk7.size
        clear HAct HR7 hk7
        go_wp2_with fail
        go_roundw
        case rel => exact ⟨i + 1, _, _, _, _, _, by omega, by go_num, rfl, HN.out, HM.out, HR8.out, HU7.out, HZ7.out, HO7.out, by first | omega | (simp at hz7; omega), hw7⟩
        case measure => simp [intOf]; omega
      · -- load
        have hld := ub.ld
        obtain ⟨w3, hw3⟩ : ∃ w3, w3 = wr.setCell ⟨w.heap.size + 1, 3, none⟩ (.int .i64 (u.ld + 1)) := ⟨_, rfl⟩
        have K3 : Kp (fun k => k = w.heap.size + 1) wr w3 := by rw [hw3]; exact Kp.set rfl
        have HR3 := HR.out.keep K3 (fun k hk hh => by have := Hlo.out k hk; omega)
        have HU3 : UAt w3 (w.heap.size + 1) u.cost u.adv u.st (u.ld + 1) 0 := by rw [hw3]; exact HU.out.s3 _
        have HZ3 := HZ.out.keep K3 (by omega)
        have HO3 := OwnA.keepS HO.out K3 (fun g hg hh => by omega)
        have hw3b := hw.trans (K3.below (by omega) (fun k hk => by show w.heap.size ≤ k; omega))
        have z3 := K3.size
        obtain ⟨p0, p1, p2, p3, p4, f0, f1, f2, f3, f4, ult⟩ := HU.out
        obtain ⟨wb, hwb⟩ : ∃ wb, wb = w3.alloc (.cells #[.int .i64 3, .int .i64 y] 53) := ⟨_, rfl⟩
        have BB : Below w3.heap.size w3 wb := by rw [hwb]; exact BX _ _
        have zb : wb.heap.size = wr.heap.size + 1 := by rw [hwb, hw3]; simp
        have HRc := Lib.hid (HR3.next BB)
        have HUc := Lib.hid (HU3.next BB)
        have HZc := Lib.hid (HZ3.next BB)
        have HOc := Lib.hid (OwnA.below HO3 BB)
        have HBc := Lib.hid (hw3b.trans (BB.mono hw3b.size))
        rw [hw3] at hwb
        clear HR HU HZ HO HR3 HU3 HZ3 HO3 hw3b BB hw3 K3 HF HFc HI ub hp e
        go_wp2_with fail
        rw [← hwb]
        clear hwb p0 p1 p2 p3 p4 f0 f1 f2 f3 f4 ult
        refine (HAct wb HRc.out).out.mono ?_; rintro e w7 ⟨rfl, HR7, hk7⟩
        have HR8 := Lib.hid HR7
        have HU7 := Lib.hid (HUc.out.keep hk7 (fun hh => by have := Hlo.out _ hh; omega))
        have HZ7 := Lib.hid (HZc.out.keep hk7 (fun hh => by have := Hlo.out _ hh; omega))
        have HO7 := Lib.hid (OwnA.keepS HOc.out hk7 (fun g hg hh => by have := Hhi.out _ hh; omega))
        have hw7 := (HBc.out).trans (hk7.below (by have := (HBc.out).size; omega) (fun k hk => by have := Hlo.out k hk; omega))
        have hz7 := hk7.size
        clear HAct HR7 hk7
        go_wp2_with fail
        go_roundw
        case rel => exact ⟨i + 1, _, _, stepU wt s ⟨3, y⟩ u, _, _, by omega, by go_num, rfl, HN.out, HM.out, HR8.out, HU7.out, HZ7.out, HO7.out, by first | omega | (simp at hz7; omega), hw7⟩
        case measure => simp [intOf]; omega
      · obtain ⟨wb, hwb⟩ : ∃ wb, wb = wr.alloc (.cells #[.int .i64 4, .int .i64 0] 53) := ⟨_, rfl⟩
        have BB : Below wr.heap.size wr wb := by rw [hwb]; exact BX _ _
        have zb : wb.heap.size = wr.heap.size + 1 := by rw [hwb]; simp
        have HRc := Lib.hid (HR.out.next BB)
        have HUc := Lib.hid (HU.out.next BB)
        have HZc := Lib.hid (HZ.out.next BB)
        have HOc := Lib.hid (OwnA.below HO.out BB)
        have HBc := Lib.hid (hw.trans (BB.mono hsz))
        clear HR HU HZ HO BB HF HFc HI ub hp e
        go_wp2_with fail
        rw [← hwb]
        clear hwb
        refine (HAct wb HRc.out).out.mono ?_; rintro e w7 ⟨rfl, HR7, hk7⟩
        have HR8 := Lib.hid HR7
        have HU7 := Lib.hid (HUc.out.keep hk7 (fun hh => by have := Hlo.out _ hh; omega))
        have HZ7 := Lib.hid (HZc.out.keep hk7 (fun hh => by have := Hlo.out _ hh; omega))
        have HO7 := Lib.hid (OwnA.keepS HOc.out hk7 (fun g hg hh => by have := Hhi.out _ hh; omega))
        have hw7 := (HBc.out).trans (hk7.below (by have := (HBc.out).size; omega) (fun k hk => by have := Hlo.out k hk; omega))
        have hz7 := hk7.size
        clear HAct HR7 hk7
        go_wp2_with fail
        go_roundw
        case rel => exact ⟨i + 1, _, _, _, _, _, by omega, by go_num, rfl, HN.out, HM.out, HR8.out, HU7.out, HZ7.out, HO7.out, by first | omega | (simp at hz7; omega), hw7⟩
        case measure => simp [intOf]; omega
    · have hii : ¬ (i : Int) < (l.length : Int) := by omega
      have HG : Hid (goU wt (cs0 n m) us0 l = u) := by
        show _ = _; rw [HI.out.far, show i = l.length by omega, List.drop_length]; rfl
      have hin := HI.out.bd.into
      obtain ⟨p0, p1, p2, p3, p4, f0, f1, f2, f3, f4, ult⟩ := HU.out
      obtain ⟨q0, q1, q2, q3, q4, g0, g1, g2, g3, g4, qlt⟩ := HZ.out
      have U5 := HU.out.s4 (u.into.length : Int)
      have Z5 := HZ.out.keep (S := fun k => k = w.heap.size + 1) (Kp.set (S := fun k => k = w.heap.size + 1) (p := ⟨w.heap.size + 1, 4, none⟩) (v := .int .i64 (u.into.length : Int)) rfl) (by omega)
      have HB5 := Lib.hid (hw.trans ((Kp.set (S := fun k => k = w.heap.size + 1) (w := wr) (p := ⟨w.heap.size + 1, 4, none⟩) (v := .int .i64 (u.into.length : Int)) rfl).below (L := w.heap.size) (by omega) (fun k hk => by omega)))
      have HZ5 := Lib.hid Z5
      clear HF HI HR HU HZ HO HAC HALL HWB HWL hP hW Hhi Hlo
      go_wp2_with fail
      obtain ⟨r0, r1, r2, r3, r4, _⟩ := put5c_at HZ5.out u.cost u.adv u.st u.ld u.into.length
      change bodyPost _ _ _ _ _ (put5c (wr.setCell ⟨w.heap.size + 1, 4, none⟩ (.int .i64 (u.into.length : Int))) w.heap.size (.int .i64 u.cost) (.int .i64 u.adv) (.int .i64 u.st) (.int .i64 u.ld) (.int .i64 (u.into.length : Int)))
      refine bodyPost_ret (v := usv u.cost u.adv u.st u.ld u.into.length) (by simp [results, Try.results65, go_sem, r0, r1, r2, r3, r4]) rfl ?_
      exact ⟨by rw [HG.out], HB5.out.trans ((put5c_kp _ _ _ _ _ _ _).below (L := w.heap.size) (by have := HB5.out.size; omega) (fun k hk => by omega))⟩

end Go.Proofs.Ytolpbflalbfhjaa
