/- Marks read as a list: the program. -/
import Derived.Test.YtiimebiecihpkaaCap
namespace Go.Proofs.Ytiimebiecihpkaa
open Go.RowKit
set_option linter.unusedVariables false

/-- the indices of the marks that are set, from k on -/
def toL : List Bool → Nat → List Int
  | [], _ => []
  | b :: r, k => if b then (k : Int) :: toL r (k + 1) else toL r (k + 1)
theorem toL_ge (bs : List Bool) : ∀ (k : Nat) (x : Int), x ∈ toL bs k → (k : Int) ≤ x := by
  induction bs with
  | nil => intro k x h; simp [toL] at h
  | cons b r ih =>
    intro k x h
    unfold toL at h
    split at h
    · rcases List.mem_cons.1 h with rfl | h
      · omega
      · have := ih (k + 1) x h; omega
    · have := ih (k + 1) x h; omega
theorem toL_len (bs : List Bool) : ∀ k : Nat, (toL bs k).length ≤ bs.length := by
  induction bs with
  | nil => intro k; simp [toL]
  | cons b r ih => intro k; have := ih (k + 1); unfold toL; split <;> simp <;> omega
theorem putL_low {l : List Int} {n : Int} (h : ∀ x, x ∈ l → n < x) : putL l n = n :: l := by
  cases l with
  | nil => rfl
  | cons x r =>
    have h1 := h x (by simp)
    unfold putL
    rw [if_neg (by omega), if_neg (by omega)]
theorem toL_set (bs : List Bool) : ∀ (j k : Nat), j < bs.length → toL (bs.set j true) k = putL (toL bs k) ((k + j : Nat) : Int) := by
  induction bs with
  | nil => intro j k h; simp at h
  | cons b r ih =>
    intro j k h
    cases j with
    | zero =>
      rw [List.set_cons_zero, Nat.add_zero]
      have e : toL (true :: r) k = (k : Int) :: toL r (k + 1) := rfl
      rw [e]
      cases b with
      | true => rw [e]; unfold putL; rw [if_neg (by omega), if_pos rfl]
      | false =>
        have e2 : toL (false :: r) k = toL r (k + 1) := rfl
        rw [e2, putL_low (fun x hx => by have := toL_ge r (k + 1) x hx; omega)]
    | succ j =>
      have h1 : j < r.length := by simp at h; omega
      have e := ih j (k + 1) h1
      rw [List.set_cons_succ]
      have e3 : ((k + 1 + j : Nat) : Int) = ((k + (j + 1) : Nat) : Int) := by omega
      rw [e3] at e
      cases b with
      | true =>
        have e1 : toL (true :: r.set j true) k = (k : Int) :: toL (r.set j true) (k + 1) := rfl
        have e2 : toL (true :: r) k = (k : Int) :: toL r (k + 1) := rfl
        rw [e1, e2, e]
        have e4 : putL ((k : Int) :: toL r (k + 1)) ((k + (j + 1) : Nat) : Int) = (k : Int) :: putL (toL r (k + 1)) ((k + (j + 1) : Nat) : Int) := by
          rw [putL]; rw [if_pos (by omega)]
        rw [e4]
      | false => exact e
theorem toL_mem (bs : List Bool) : ∀ (j k : Nat), (((k + j : Nat) : Int) ∈ toL bs k) ↔ bs.getD j false = true := by
  induction bs with
  | nil => intro j k; simp [toL]
  | cons b r ih =>
    intro j k
    cases j with
    | zero =>
      have hlow : ¬ (((k + 0 : Nat) : Int) ∈ toL r (k + 1)) := fun h => by have := toL_ge r (k + 1) _ h; omega
      cases b with
      | true => simp [toL]
      | false =>
        have e : toL (false :: r) k = toL r (k + 1) := rfl
        rw [e]
        simp only [List.getD_cons_zero, Bool.false_eq_true, iff_false]
        exact hlow
    | succ j =>
      have e := ih j (k + 1)
      have e3 : ((k + 1 + j : Nat) : Int) = ((k + (j + 1) : Nat) : Int) := by omega
      rw [e3] at e
      rw [List.getD_cons_succ, ← e]
      cases b with
      | true =>
        have e1 : toL (true :: r) k = (k : Int) :: toL r (k + 1) := rfl
        rw [e1, List.mem_cons]
        constructor
        · rintro (h | h)
          · omega
          · exact h
        · exact .inr
      | false => exact Iff.rfl
theorem toL_none (n : Nat) : ∀ k : Nat, toL (List.replicate n false) k = [] := by
  induction n with
  | zero => intro k; rfl
  | succ n ih => intro k; exact ih (k + 1)

/-- marks and lists go side by side -/
theorem callsF_markB {f : Fo} : ∀ {bs : List Bool}, okC (bs.length : Int) f → callsF f (toL bs 0) = toL (markB f bs) 0 := by
  induction f with
  | nil => intro bs _; rfl
  | cons k n p c ks r ihk ihr =>
    intro bs h
    obtain ⟨⟨hf, hc⟩, hk, hr⟩ := h
    show callsF r (callsF ks (if k = 10 ∨ k = 11 then putL (toL bs 0) n else toL bs 0)) = toL (markB r (markB ks (if k = 10 ∨ k = 11 then bs.set n.toNat true else bs))) 0
    by_cases hkk : k = 10 ∨ k = 11
    · rw [if_pos hkk, if_pos hkk]
      obtain ⟨h1, h2⟩ := hc hkk
      obtain ⟨j, rfl⟩ := Int.eq_ofNat_of_zero_le h1
      have e := toL_set bs j 0 (by omega)
      rw [Nat.zero_add] at e
      have hl : (bs.set j true).length = bs.length := List.length_set
      rw [Int.toNat_natCast, ← e, ihk (by rw [hl]; exact hk), ihr (by rw [markB_len, hl]; exact hr)]
    · rw [if_neg hkk, if_neg hkk, ihk hk, ihr (by rw [markB_len]; exact hr)]
def allI (fs : List Fn) : Nat → List Bool → List Bool
  | 0, bs => bs
  | t + 1, bs => allI fs t (if bs.getD t false = true then markB (fs.getD t noFn).outs bs else bs)
theorem allI_len (fs : List Fn) : ∀ (t : Nat) (bs : List Bool), (allI fs t bs).length = bs.length := by
  intro t
  induction t with
  | zero => intro bs; rfl
  | succ t ih =>
    intro bs
    show (allI fs t (if bs.getD t false = true then markB (fs.getD t noFn).outs bs else bs)).length = _
    rw [ih]
    split
    · exact markB_len _ _
    · rfl
theorem allS_allI {fs : List Fn} : ∀ {t : Nat} {bs : List Bool}, (∀ g, g < t → okC (bs.length : Int) (fs.getD g noFn).outs) → allS fs t (toL bs 0) = toL (allI fs t bs) 0 := by
  intro t
  induction t with
  | zero => intro bs _; rfl
  | succ t ih =>
    intro bs h
    show allS fs t (if (t : Int) ∈ toL bs 0 then callsF (fs.getD t noFn).outs (toL bs 0) else toL bs 0) = toL (allI fs t (if bs.getD t false = true then markB (fs.getD t noFn).outs bs else bs)) 0
    have e := toL_mem bs t 0
    rw [Nat.zero_add] at e
    by_cases hb : bs.getD t false = true
    · rw [if_pos (e.2 hb), if_pos hb, callsF_markB (h t (by omega)), ih (fun g hg => by rw [markB_len]; exact h g (by omega))]
    · rw [if_neg (fun hm => hb (e.1 hm)), if_neg hb, ih (fun g hg => h g (by omega))]

theorem toL_drop {bs : List Bool} {t : Nat} (h : t < bs.length) : toL (bs.drop t) t = (if bs.getD t false = true then [(t : Int)] else []) ++ toL (bs.drop (t + 1)) (t + 1) := by
  rw [List.drop_eq_getElem_cons h, List.getD_eq_getElem?_getD, List.getElem?_eq_getElem h]
  show (if bs[t] = true then (t : Int) :: toL (bs.drop (t + 1)) (t + 1) else toL (bs.drop (t + 1)) (t + 1)) = (if bs[t] = true then [(t : Int)] else []) ++ toL (bs.drop (t + 1)) (t + 1)
  split <;> rfl
theorem own64_snoc {B : Nat} {w : World} {v : Value} {t : List Int} {n : Int} (h : w.ownsRow B 2 1 v (t.length + 1) (t.map (Value.int .i64) ++ [Value.int .i64 n])) : w.ownsRow B 2 1 v (t ++ [n]).length ((t ++ [n]).map (Value.int .i64)) := by
  rw [List.length_append, List.map_append, List.length_singleton]; exact h

set_option maxRecDepth 100000 in
set_option maxHeartbeats 3200000 in
theorem iMarked (B g : Nat) (bs : List Bool) (w : World) (hM : OwnM B w g bs) (hbl : bs.length ≤ 1048576) :
    Calls Try.prog 114 #[.slice (some ⟨g, 0, none⟩) bs.length bs.length] w fun e w' => ∃ v, e = .returned v ∧ w'.ownsRow w.heap.size 2 1 v (toL bs 0).length ((toL bs 0).map (Value.int .i64)) ∧ Below w.heap.size w w' := by
  obtain ⟨i0, hi, hz0, hz1, hz2⟩ := info_parts info64
  have hO0 : w.ownsRow w.heap.size 2 1 (.slice none 0 0) ([] : List Int).length (([] : List Int).map (Value.int .i64)) := World.ownsRow_nil _ _ _ _
  have H0 : Hid (toL bs 0 = [] ++ toL (bs.drop 0) 0) := rfl
  have hb0 : Below w.heap.size w w := Below.refl _ _
  go_enter Try.func114, Try.ntmps114
  go_wp2_with fail
  go_loopw [3, 8] (fun v q wr => ∃ (t : Nat) (xs : List Int), t ≤ bs.length ∧ q = .int .i64 t ∧ xs.length ≤ t ∧ Hid (toL bs 0 = xs ++ toL (bs.drop t) t) ∧ wr.ownsRow w.heap.size 2 1 v xs.length (xs.map (Value.int .i64)) ∧ Below w.heap.size w wr) (fun _ q _ => bs.length - (intOf q).toNat)
  case atStart => exact ⟨0, [], Nat.zero_le _, rfl, Nat.zero_le _, H0, hO0, hb0⟩
  case round =>
    obtain ⟨t, xs, ht, rfl, hxl, HX, ho, hw⟩ := hrel
    clear H0 hO0 hb0
    by_cases hlt : t < bs.length
    · have hti : (t : Int) < (bs.length : Int) := by omega
      have hz := hw.size
      have cj := (hw.cell (p := ⟨g, t, none⟩) (hM.base.2)).trans (hM.cellAt t hlt)
      have e := toL_drop hlt
      have hob := Lib.hid (fun k hk => (World.ownsRow.lt ho k hk).1)
      cases hb : bs.getD t false with
      | false =>
        rw [hb] at cj e
        have HX2 : Hid (toL bs 0 = xs ++ toL (bs.drop (t + 1)) (t + 1)) := by show _ = _; rw [HX.out, e]; rfl
        clear hb e HX hM
        go_wp2_with fail
        go_roundw
        case rel => exact ⟨t + 1, xs, by omega, by go_num, by omega, HX2, ho, hw⟩
        case measure => simp [intOf]; omega
      | true =>
        rw [hb] at cj e
        have HX2 : Hid (toL bs 0 = (xs ++ [(t : Int)]) ++ toL (bs.drop (t + 1)) (t + 1)) := by show _ = _; rw [HX.out, e, if_pos rfl, List.append_assoc]
        clear hb e HX hM
        go_wp2_with (at_builtin; refine wpList_append_lies _ rfl _ _ _ rfl w.heap.size 2 i0 _ 1 8 Try.underlying23 hi hz0 hz1 hz2 rfl (by omega) u3 xs.length (xs.map (Value.int .i64)) rfl (ho.alloc _) ⟨wr.heap.size, 0, none⟩ 1 1 [.int .i64 t] rfl rfl (World.news_of_block (cs := #[.int .i64 t]) (t := 2) (fr := (0, 0)) (heap_alloc_new wr _)) (by simp [Value.oneCell']) (by omega) (by unfold maxLen; omega) (by omega) (by simp; omega) (wr.heap.size + 1) (by simp) ?_; intro gg cc w1 hown1 hgrow hat hlt1)
        have hw2 := (hw.alloc hz (.cells #[.int .i64 t] 2)).grown hgrow (by simp; omega) hob.out
        have ho3 := own64_snoc hown1
        go_roundw
        case rel => exact ⟨t + 1, _, by omega, by go_num, by simp; omega, HX2, ho3, hw2⟩
        case measure => simp [intOf]; omega
    · have hti : ¬ (t : Int) < (bs.length : Int) := by omega
      have HX2 : Hid (toL bs 0 = xs) := by show _ = _; rw [HX.out, List.drop_eq_nil_of_le (by omega), show toL [] t = [] from rfl, List.append_nil]
      clear HX hM
      go_wp2_with fail
      go_ret
      exact ⟨_, rfl, by rw [HX2.out]; exact ho, hw⟩

end Go.Proofs.Ytiimebiecihpkaa
