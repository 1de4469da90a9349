/- Idle actions by the model. -/
import Derived.Test.YtolpbflalbfhjaaCke
namespace Go.Proofs.Ytolpbflalbfhjaa
open Go.RowKit
set_option linter.unusedVariables false

theorem stF_step {l : List Ac} {i : Nat} (h : i < l.length) (k : Int) : stF k (l.drop i) = if (l.getD i noAc).arg = k ∧ (l.getD i noAc).kind = 3 then false else if (l.getD i noAc).arg = k ∧ (l.getD i noAc).kind = 2 then true else stF k (l.drop (i + 1)) := by
  rw [drop_ac h, stF]
  unfold eqAc
  generalize l.getD i noAc = y
  obtain ⟨kd, ag⟩ := y
  by_cases h1 : ag = k <;> by_cases h2 : kd = 3 <;> by_cases h3 : kd = 2 <;> simp_all
set_option maxRecDepth 100000 in
set_option maxHeartbeats 1600000 in
theorem sIdle (l : List Ac) (k : Nat) (hk : k < l.length) (a : Option Addr) (cap : Nat) (w : World) (hP : AcAt w 0 w.heap.size l a) (hs : l.length ≤ 1048576) :
    Calls Try.prog 67 #[.slice a l.length cap, .int .i64 k] w fun e w' => e = .returned (.bool (idB (l.getD k noAc) (l.drop (k + 1)))) ∧ Below w.heap.size w w' := by
  have B1 : ∀ (W : World) (o : Obj), Below W.heap.size W (W.alloc o) := fun W o => (Below.refl _ _).alloc (Nat.le_refl _) o
  obtain ⟨b, off, rfl, hbB, hall⟩ := hP.resolve_left (by intro e; rw [e] at hk; simp at hk)
  obtain ⟨hr, c0, c1⟩ := hall k hk
  have HA := Lib.hid hall
  have hbB2 := hbB.2
  have hki : (k : Int) < (l.length : Int) := by omega
  have hkN : (k : Int) ≤ 1048576 := by omega
  have HN : Hid ((l.drop (k + 1)).length = l.length - (k + 1) ∧ (l.drop (k + 1)).getD 0 noAc = l.getD (k + 1) noAc) := ⟨List.length_drop, by rw [List.getD_eq_getElem?_getD, List.getElem?_drop, List.getD_eq_getElem?_getD]⟩
  obtain ⟨x, hx⟩ : ∃ x, x = l.getD k noAc := ⟨_, rfl⟩
  rw [← hx] at c0 c1 ⊢
  clear hx hr hall
  obtain ⟨kd, ax⟩ := x
  simp only at c0 c1
  have hk9 : IntKind.i64.wrap ((k : Int) + 1) = (k : Int) + 1 := IntWalk.i64_in _ (by omega)
  by_cases h2 : kd = 2
  · subst h2
    have HF : Hid (idB ⟨2, ax⟩ (l.drop (k + 1)) = stF ax (l.drop (k + 1))) := by show _ = _; unfold idB; rw [if_pos rfl]
    go_enter Try.func67, Try.ntmps67
    go_wp2_with fail
    obtain ⟨w0, hw0⟩ : ∃ w0, w0 = w.alloc (.cells #[.int .i64 2, .int .i64 ax] 53) := ⟨_, rfl⟩
    have A0 : Below w.heap.size w w0 := by rw [hw0]; exact B1 _ _
    have x1 : w0.cell? ⟨w.heap.size, 1, none⟩ = some (.int .i64 ax) := by rw [hw0]; simp [go_sem]
    have z0 : w0.heap.size = w.heap.size + 1 := by rw [hw0]; simp
    try rw [← hw0]
    clear hw0 c0 c1
    go_loopw [6] (fun q wr => ∃ i : Nat, k + 1 ≤ i ∧ i ≤ l.length ∧ q = .int .i64 i ∧ Hid (stF ax (l.drop (k + 1)) = stF ax (l.drop i)) ∧ Below w0.heap.size w0 wr) (fun q _ => l.length - (intOf q).toNat)
    case atStart => exact ⟨k + 1, Nat.le_refl _, hk, by go_num, rfl, Below.refl _ _⟩
    case round =>
      obtain ⟨i, hi0, hi, rfl, HG, hw⟩ := hrel
      have hb := A0.trans (hw.mono A0.size)
      have hsz := hw.size
      by_cases hlt : i < l.length
      · have hii : (i : Int) < (l.length : Int) := by omega
        obtain ⟨hr, d0, d1⟩ := HA.out i hlt
        have d0 := (hb.cell (p := ⟨b, off + i * 2, none⟩) hbB2).trans d0
        have d1 := (hb.cell (p := ⟨b, off + i * 2 + 1, none⟩) hbB2).trans d1
        have x1' := (hw.cell (p := ⟨w.heap.size, 1, none⟩) (by show w.heap.size < _; omega)).trans x1
        have hiN : (i : Int) < 9223372036854775806 := by omega
        have HS : Hid (stF ax (l.drop (k + 1)) = if (l.getD i noAc).arg = ax ∧ (l.getD i noAc).kind = 3 then false else if (l.getD i noAc).arg = ax ∧ (l.getD i noAc).kind = 2 then true else stF ax (l.drop (i + 1))) := by
          show _ = _; rw [HG.out, stF_step hlt]
        clear hr HG x1
        generalize (l.getD i noAc).kind = kd at *
        generalize (l.getD i noAc).arg = ag at *
        have HW := fun j => Lib.hid (hw.trans ((below_drewN (Below.refl wr.heap.size wr) j).mono hsz))
        have HB := fun j => Lib.hid (hb.trans ((below_drewN (Below.refl wr.heap.size wr) j).mono hb.size))
        by_cases hag : ag = ax
        · subst hag
          by_cases h3 : kd = 3
          · subst h3
            have HS2 : Hid (stF ag (l.drop (k + 1)) = false) := by show _ = _; rw [HS.out, if_pos ⟨rfl, rfl⟩]
            clear HS HW
            go_wp2_with fail
            go_quiet (fail)
            go_wp2_with fail
            go_ret
            exact ⟨ret_bool (by rw [HF.out, HS2.out]), (HB _).out⟩
          · by_cases h2 : kd = 2
            · subst h2
              have HS2 : Hid (stF ag (l.drop (k + 1)) = true) := by show _ = _; rw [HS.out, if_neg (by simp), if_pos ⟨rfl, rfl⟩]
              clear HS HW
              go_wp2_with fail
              go_quiet (fail)
              go_wp2_with fail
              go_quiet (fail)
              go_wp2_with fail
              go_ret
              exact ⟨ret_bool (by rw [HF.out, HS2.out]), (by first | exact (HB _).out | exact below_drewN (HB _).out _)⟩
            · have HS2 : Hid (stF ag (l.drop (k + 1)) = stF ag (l.drop (i + 1))) := by show _ = _; rw [HS.out, if_neg (fun h => h3 h.2), if_neg (fun h => h2 h.2)]
              have e3 : (kd == 3) = false := by simpa using h3
              have e2 : (kd == 2) = false := by simpa using h2
              clear HS HB
              go_wp2_with fail
              go_quiet (fail)
              go_wp2_with fail
              go_quiet (fail)
              go_wp2_with fail
              go_roundw
              case rel => exact ⟨i + 1, by omega, by omega, by go_num, HS2.out, (by first | exact (HW _).out | exact below_drewN (HW _).out _)⟩
              case measure => simp [intOf]; omega
        · have HS2 : Hid (stF ax (l.drop (k + 1)) = stF ax (l.drop (i + 1))) := by show _ = _; rw [HS.out, if_neg (fun h => hag h.1), if_neg (fun h => hag h.1)]
          have e3 : (ag == ax) = false := by simpa using hag
          clear HS HB
          go_wp2_with fail
          go_quiet (fail)
          go_wp2_with fail
          go_quiet (fail)
          go_wp2_with fail
          go_roundw
          case rel => exact ⟨i + 1, by omega, by omega, by go_num, HS2.out, (by first | exact (HW _).out | exact below_drewN (HW _).out _)⟩
          case measure => simp [intOf]; omega
      · have hii : ¬ (i : Int) < (l.length : Int) := by omega
        have HS : Hid (stF ax (l.drop (k + 1)) = true) := by show _ = _; rw [HG.out, List.drop_eq_nil_of_le (by omega)]; rfl
        clear HG
        go_wp2_with fail
        go_ret
        exact ⟨ret_bool (by rw [HF.out, HS.out]), hb⟩
  · by_cases h13 : kd = 1 ∨ kd = 3
    · have HF : Hid (idB ⟨kd, ax⟩ (l.drop (k + 1)) = (decide (l.length - (k + 1) = 0) || decide ((l.getD (k + 1) noAc).kind = 3))) := by show _ = _; unfold idB; rw [if_neg h2, if_pos h13, HN.out.1, HN.out.2]
      have hw1 : IntKind.i64.wrap ((l.length : Int) - 1) = (l.length : Int) - 1 := IntWalk.i64_in _ (by omega)
      by_cases hl : k + 1 = l.length
      · have hl2 : ((k : Int) == (l.length : Int) - 1) = true := by simp; omega
        have hl3 : (k : Int) = (l.length : Int) - 1 := by omega
        have HF2 : Hid (idB ⟨kd, ax⟩ (l.drop (k + 1)) = true) := by show _ = _; rw [HF.out, decide_eq_true (by omega)]; rfl
        clear HF h2 hl hl3
        rcases h13 with rfl | rfl
        all_goals
          go_enter Try.func67, Try.ntmps67
          go_wp2_with fail
          go_ret
          exact ⟨ret_bool (by rw [HF2.out]), B1 _ _⟩
      · have hl2 : ((k : Int) == (l.length : Int) - 1) = false := by simp; omega
        have hk5 : (k : Int) + 1 < (l.length : Int) := by omega
        obtain ⟨_, d0, _⟩ := HA.out (k + 1) (by omega)
        have HF2 : Hid (idB ⟨kd, ax⟩ (l.drop (k + 1)) = decide ((l.getD (k + 1) noAc).kind = 3)) := by show _ = _; rw [HF.out, decide_eq_false (by omega)]; rfl
        clear HF h2 hl
        generalize (l.getD (k + 1) noAc).kind = kq at *
        by_cases hq : kq = 3
        · subst hq
          rcases h13 with rfl | rfl
          all_goals
            go_enter Try.func67, Try.ntmps67
            go_wp2_with fail
            go_ret
            exact ⟨ret_bool (by rw [HF2.out]; rfl), B1 _ _⟩
        · have hqb : (kq == 3) = false := by simpa using hq
          rcases h13 with rfl | rfl
          all_goals
            go_enter Try.func67, Try.ntmps67
            go_wp2_with fail
            go_ret
            exact ⟨ret_bool (by rw [HF2.out]; simp [hq]), B1 _ _⟩
    · have HF : Hid (idB ⟨kd, ax⟩ (l.drop (k + 1)) = false) := by show _ = _; unfold idB; rw [if_neg h2, if_neg h13]
      have e1 : (kd == 1) = false := by simp; omega
      have e2 : (kd == 2) = false := by simp; omega
      have e3 : (kd == 3) = false := by simp; omega
      clear h2 h13
      go_enter Try.func67, Try.ntmps67
      go_wp2_with fail
      go_ret
      exact ⟨ret_bool (by rw [HF.out]), B1 _ _⟩

end Go.Proofs.Ytolpbflalbfhjaa
