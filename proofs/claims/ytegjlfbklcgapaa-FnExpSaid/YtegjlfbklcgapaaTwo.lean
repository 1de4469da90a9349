/- Two series of one order, or what is wrong with them; the sum of two series. -/
import Derived.Test.YtegjlfbklcgapaaAddI
import Derived.Laws.EntriesVeiled
namespace Go.Proofs.Ytegjlfbklcgapaa
open Go.RowKit

def two (l m : List Int) : Int := if okS l = true ∧ okS m = true then (if l.length = m.length then 0 else 2) else 1
theorem two_bad1 {l m : List Int} (h : okS l = false) : two l m = 1 := by unfold two; rw [if_neg (by rw [h]; simp)]
theorem two_bad2 {l m : List Int} (h : okS m = false) : two l m = 1 := by unfold two; rw [if_neg (by rw [h]; simp)]
theorem two_len {l m : List Int} (h1 : okS l = true) (h2 : okS m = true) (h : l.length ≠ m.length) : two l m = 2 := by unfold two; rw [if_pos ⟨h1, h2⟩, if_neg h]
theorem two_ok {l m : List Int} (h1 : okS l = true) (h2 : okS m = true) (h : l.length = m.length) : two l m = 0 := by unfold two; rw [if_pos ⟨h1, h2⟩, if_pos h]

/-- The call answers a slice of its own, or one that holds nothing, that reads as l, and a code; nothing that was there has turned. -/
def Res2 (w : World) (l : List Int) (c : Int) (e : Ending) (w' : World) : Prop :=
  ∃ a cap, e = .returned (.tuple #[.slice a l.length cap, .int .i64 c]) ∧ OwnA w.heap.size w' a cap l ∧ Below w.heap.size w w'

theorem res2_of_fresh {w w1 : World} {l l' : List Int} {c c' : Int} {e : Ending} (hl : l = l') (hc : c = c') (h : Fresh2 w l c e w1) : Res2 w l' c' e w1 := by
  subst hl; subst hc
  obtain ⟨g, cap, he, ho, hb⟩ := h
  exact ⟨_, cap, he, ho.a, hb⟩

set_option maxHeartbeats 800000 in
theorem sTwo (a b : Option Addr) (ca cb : Nat) (l m : List Int) (w : World) (ha : At w a l) (hb : At w b m) (hl : l.length ≤ 1048576) (hm : m.length ≤ 1048576) :
    Calls Try.prog 88 #[.slice a l.length ca, .slice b m.length cb] w fun e w' => e = .returned (.int .i64 (two l m)) ∧ w = w' := by
  cases h1 : okS l with
  | false =>
    have hf := Lib.hid (two_bad1 (m := m) h1)
    have H1 := Lib.hid h1
    clear h1
    go_enter Try.func88, Try.ntmps88
    go_wp2_with fail
    refine (sOk a ca l _ ha (by omega)).mono ?_; rintro e w' ⟨rfl, rfl⟩
    rw [H1.out]
    go_wp2_with fail
    go_ret
    exact ⟨ret_int hf.out.symm, rfl⟩
  | true =>
    cases h2 : okS m with
    | false =>
      have hf := Lib.hid (two_bad2 (l := l) h2)
      have H1 := Lib.hid h1
      have H2 := Lib.hid h2
      clear h1 h2
      go_enter Try.func88, Try.ntmps88
      go_wp2_with fail
      refine (sOk a ca l _ ha (by omega)).mono ?_; rintro e w' ⟨rfl, rfl⟩
      rw [H1.out]
      go_wp2_with fail
      refine (sOk b cb m _ hb (by omega)).mono ?_; rintro e w' ⟨rfl, rfl⟩
      rw [H2.out]
      go_wp2_with fail
      go_ret
      exact ⟨ret_int hf.out.symm, rfl⟩
    | true =>
      have H1 := Lib.hid h1
      have H2 := Lib.hid h2
      by_cases hne : l.length = m.length
      · have hf := Lib.hid (two_ok h1 h2 hne)
        have hq : ((l.length : Int) != (m.length : Int)) = false := by rw [hne]; simp
        clear h1 h2 hne
        go_enter Try.func88, Try.ntmps88
        go_wp2_with fail
        refine (sOk a ca l _ ha (by omega)).mono ?_; rintro e w' ⟨rfl, rfl⟩
        rw [H1.out]
        go_wp2_with fail
        refine (sOk b cb m _ hb (by omega)).mono ?_; rintro e w' ⟨rfl, rfl⟩
        rw [H2.out]
        go_wp2_with fail
        go_ret
        exact ⟨ret_int hf.out.symm, rfl⟩
      · have hf := Lib.hid (two_len h1 h2 hne)
        have hq : ((l.length : Int) != (m.length : Int)) = true := by rw [bne_iff_ne]; omega
        clear h1 h2 hne
        go_enter Try.func88, Try.ntmps88
        go_wp2_with fail
        refine (sOk a ca l _ ha (by omega)).mono ?_; rintro e w' ⟨rfl, rfl⟩
        rw [H1.out]
        go_wp2_with fail
        refine (sOk b cb m _ hb (by omega)).mono ?_; rintro e w' ⟨rfl, rfl⟩
        rw [H2.out]
        go_wp2_with fail
        go_ret
        exact ⟨ret_int hf.out.symm, rfl⟩

theorem At.alloc {w : World} {a : Option Addr} {l : List Int} (h : At w a l) (o : Obj) : At (w.alloc o) a l := h.below ((Below.refl _ _).alloc (Nat.le_refl _) o) (Nat.le_refl _)
theorem res2_alloc {w w1 : World} {o : Obj} {l : List Int} {c : Int} {e : Ending} (h : Res2 (w.alloc o) l c e w1) : Res2 w l c e w1 := by
  obtain ⟨a, cap, he, ho, hb⟩ := h
  have hs : w.heap.size ≤ (w.alloc o).heap.size := by simp
  refine ⟨a, cap, he, ?_, ((Below.refl _ _).alloc (Nat.le_refl _) o).trans (hb.mono hs)⟩
  rcases ho with h | ⟨g, h1, h2⟩
  · exact .inl h
  · exact .inr ⟨g, h1, h2.mono hs⟩

/-- What an operation on two series of one order gives, if there is nothing wrong with them. -/
def ifTwo (l m r : List Int) : List Int := if two l m = 0 then r else []
theorem two_cases (l m : List Int) : (two l m = 0 ∧ okS l = true ∧ okS m = true ∧ l.length = m.length) ∨ (two l m = 1 ∧ (okS l = false ∨ okS l = true ∧ okS m = false)) ∨ (two l m = 2 ∧ okS l = true ∧ okS m = true ∧ l.length ≠ m.length) := by
  cases h1 : okS l with
  | false => exact .inr (.inl ⟨two_bad1 h1, .inl rfl⟩)
  | true =>
    cases h2 : okS m with
    | false => exact .inr (.inl ⟨two_bad2 h2, .inr ⟨rfl, rfl⟩⟩)
    | true =>
      by_cases h : l.length = m.length
      · exact .inl ⟨two_ok h1 h2 h, rfl, rfl, h⟩
      · exact .inr (.inr ⟨two_len h1 h2 h, rfl, rfl, h⟩)

set_option maxHeartbeats 800000 in
theorem sAddSeries (a b : Option Addr) (ca cb : Nat) (l m : List Int) (w : World) (ha : At w a l) (hb : At w b m) (hr : Rng l) (hr2 : Rng m) (hl : l.length ≤ 1048576) (hm : m.length ≤ 1048576) :
    Calls Try.prog 61 #[.slice a l.length ca, .slice b m.length cb] w (Res2 w (ifTwo l m (addl l m)) (two l m)) := by
  by_cases h0 : two l m = 0
  · have hlm : Hid (m.length = l.length) := by
      rcases two_cases l m with h | h | h
      · exact h.2.2.2.symm
      · omega
      · omega
    have H0 := Lib.hid h0
    have hif := Lib.hid (show addl l m = ifTwo l m (addl l m) by unfold ifTwo; rw [if_pos h0])
    clear h0
    go_enter Try.func61, Try.ntmps61
    go_wp2_with fail
    refine (sTwo a b ca cb l m _ ha hb hl hm).mono ?_; rintro e w' ⟨rfl, rfl⟩
    rw [H0.out]
    go_wp2_with fail
    refine (sAdd a b ca cb l m _ ha hb hr hr2 hlm hl).mono ?_; rintro e w1 ⟨g, cap, rfl, ho, hbel⟩
    go_wp2_with fail
    go_ret2
    exact res2_of_fresh (c := 0) hif.out H0.out.symm ⟨g, cap, rfl, ho, hbel⟩
  · have hif := Lib.hid (show ([] : List Int) = ifTwo l m (addl l m) by unfold ifTwo; rw [if_neg h0])
    have hq : (two l m != 0) = true := by rw [bne_iff_ne]; exact h0
    clear h0
    go_enter Try.func61, Try.ntmps61
    go_wp2_with fail
    refine (sTwo a b ca cb l m _ ha hb hl hm).mono ?_; rintro e w' ⟨rfl, rfl⟩
    go_wp2_with fail
    go_ret2
    rw [← hif.out]
    exact ⟨_, _, rfl, .inl rfl, (Below.refl _ _).alloc (Nat.le_refl _) _⟩

set_option maxRecDepth 100000 in
set_option maxHeartbeats 1600000 in
theorem icombine0 (a b : Option Addr) (ca cb : Nat) (l m : List Int) (w : World) (ha : At w a l) (hb : At w b m) (hr : Rng l) (hr2 : Rng m) (hl : l.length ≤ 1048576) (hm : m.length ≤ 1048576) :
    Calls Try.prog 81 #[.int .i64 0, .slice a l.length ca, .slice b m.length cb] w (Res2 w (ifTwo l m (addl l m)) (two l m)) := by
  rcases two_cases l m with ⟨h0, h1, h2, h3⟩ | ⟨h0, h1⟩ | ⟨h0, h1, h2, h3⟩
  · have hlm : Hid (m.length = l.length) := h3.symm
    have hif := Lib.hid (show addl l m = ifTwo l m (addl l m) by unfold ifTwo; rw [if_pos h0])
    have H0 := Lib.hid h0
    have H1 := Lib.hid h1
    have H2 := Lib.hid h2
    have hq : ((l.length : Int) != (m.length : Int)) = false := by rw [h3]; simp
    clear h0 h1 h2 h3
    go_enter Try.func81, Try.ntmps81
    go_wp2_with fail
    refine (iValid a ca l _ ha (by omega)).mono ?_; rintro e w' ⟨rfl, rfl⟩
    rw [H1.out]
    go_wp2_with fail
    refine (iValid b cb m _ hb (by omega)).mono ?_; rintro e w' ⟨rfl, rfl⟩
    rw [H2.out]
    go_wp2_with fail
    refine (iadd a b ca cb l m _ (by exact ha.alloc _) (by exact hb.alloc _) hr hr2 hlm hl).mono ?_; rintro e w1 ⟨g, cap, rfl, ho, hbel⟩
    go_wp2_with fail
    go_ret2
    exact res2_alloc (res2_of_fresh (c := 0) hif.out H0.out.symm ⟨g, cap, rfl, ho, hbel⟩)
  · have hif := Lib.hid (show ([] : List Int) = ifTwo l m (addl l m) by unfold ifTwo; rw [if_neg (by omega)])
    have H0 := Lib.hid h0
    clear h0
    rcases h1 with h1 | ⟨h1, h2⟩
    · have H1 := Lib.hid h1
      clear h1
      go_enter Try.func81, Try.ntmps81
      go_wp2_with fail
      refine (iValid a ca l _ ha (by omega)).mono ?_; rintro e w' ⟨rfl, rfl⟩
      rw [H1.out]
      go_wp2_with fail
      go_ret2
      rw [← hif.out, H0.out]
      exact ⟨none, 0, rfl, .inl rfl, Below.refl _ _⟩
    · have H1 := Lib.hid h1
      have H2 := Lib.hid h2
      clear h1 h2
      go_enter Try.func81, Try.ntmps81
      go_wp2_with fail
      refine (iValid a ca l _ ha (by omega)).mono ?_; rintro e w' ⟨rfl, rfl⟩
      rw [H1.out]
      go_wp2_with fail
      refine (iValid b cb m _ hb (by omega)).mono ?_; rintro e w' ⟨rfl, rfl⟩
      rw [H2.out]
      go_wp2_with fail
      go_ret2
      rw [← hif.out, H0.out]
      exact ⟨none, 0, rfl, .inl rfl, Below.refl _ _⟩
  · have hif := Lib.hid (show ([] : List Int) = ifTwo l m (addl l m) by unfold ifTwo; rw [if_neg (by omega)])
    have H0 := Lib.hid h0
    have H1 := Lib.hid h1
    have H2 := Lib.hid h2
    have hq : ((l.length : Int) != (m.length : Int)) = true := by rw [bne_iff_ne]; omega
    clear h0 h1 h2 h3
    go_enter Try.func81, Try.ntmps81
    go_wp2_with fail
    refine (iValid a ca l _ ha (by omega)).mono ?_; rintro e w' ⟨rfl, rfl⟩
    rw [H1.out]
    go_wp2_with fail
    refine (iValid b cb m _ hb (by omega)).mono ?_; rintro e w' ⟨rfl, rfl⟩
    rw [H2.out]
    go_wp2_with fail
    go_ret2
    rw [← hif.out, H0.out]
    exact ⟨none, 0, rfl, .inl rfl, Below.refl _ _⟩

set_option maxHeartbeats 800000 in
theorem iAddSeries (a b : Option Addr) (ca cb : Nat) (l m : List Int) (w : World) (ha : At w a l) (hb : At w b m) (hr : Rng l) (hr2 : Rng m) (hl : l.length ≤ 1048576) (hm : m.length ≤ 1048576) :
    Calls Try.prog 34 #[.slice a l.length ca, .slice b m.length cb] w (Res2 w (ifTwo l m (addl l m)) (two l m)) := by
  go_enter Try.func34, Try.ntmps34
  go_wp2_with fail
  refine (icombine0 a b ca cb l m _ ha hb hr hr2 hl hm).mono ?_; rintro e w1 ⟨g, cap, rfl, ho, hbel⟩
  go_wp2_with fail
  go_ret2
  exact ⟨g, cap, rfl, ho, hbel⟩

theorem ifTwo_len {l m r : List Int} {n : Nat} (h : r.length ≤ n) : (ifTwo l m r).length ≤ n := by
  unfold ifTwo; split
  · exact h
  · simp
theorem resLen_AddSeries (l m : List Int) (hl : l.length ≤ 1048576) (_ : m.length ≤ 1048576) : (ifTwo l m (addl l m)).length ≤ 1048576 := ifTwo_len (by rw [addl_len]; exact hl)

end Go.Proofs.Ytegjlfbklcgapaa
