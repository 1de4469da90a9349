/- Functions found by their names: the model and the program. -/
import Derived.Test.YtiimebiecihpkaaIm
import Derived.Test.YtiimebiecihpkaaSy
namespace Go.Proofs.Ytiimebiecihpkaa
open Go.RowKit
set_option linter.unusedVariables false

theorem idx_unique {fs : List Fn} {s : ByteArray} {n : Nat} {r r' : Int} (h : IdxIs fs s n r) (h' : IdxIs fs s n r') : r = r' := by
  rcases h with ⟨rfl, h⟩ | ⟨j, hj, rfl, he, h⟩
  · rcases h' with ⟨rfl, _⟩ | ⟨j', hj', rfl, he', _⟩
    · rfl
    · exact absurd he' (h j' hj')
  · rcases h' with ⟨rfl, h'⟩ | ⟨j', hj', rfl, he', h'⟩
    · exact absurd he (h' j hj)
    · by_cases h1 : j < j'
      · exact absurd he (h' j h1)
      · by_cases h2 : j' < j
        · exact absurd he' (h j' h2)
        · have : j = j' := by omega
          rw [this]

/-- What is answered for a name. -/
def NamedIs (fs : List Fn) (s : ByteArray) (v c : Int) : Prop :=
  (progB fs = false ∧ v = 0 ∧ c = 1) ∨ (progB fs = true ∧ ∃ r, IdxIs fs s fs.length r ∧ ((r < 0 ∧ v = 0 ∧ c = 9) ∨ (0 ≤ r ∧ v = r ∧ c = 0)))
theorem named_unique {fs : List Fn} {s : ByteArray} {v c v' c' : Int} (h : NamedIs fs s v c) (h' : NamedIs fs s v' c') : v = v' ∧ c = c' := by
  rcases h with ⟨hp, rfl, rfl⟩ | ⟨hp, r, hr, h⟩
  · rcases h' with ⟨_, rfl, rfl⟩ | ⟨hp', _⟩
    · exact ⟨rfl, rfl⟩
    · rw [hp] at hp'; cases hp'
  · rcases h' with ⟨hp', _⟩ | ⟨_, r', hr', h'⟩
    · rw [hp] at hp'; cases hp'
    · have := idx_unique hr hr'
      subst this
      rcases h with ⟨h1, rfl, rfl⟩ | ⟨h1, rfl, rfl⟩
      · rcases h' with ⟨_, rfl, rfl⟩ | ⟨h2, _⟩
        · exact ⟨rfl, rfl⟩
        · omega
      · rcases h' with ⟨h2, _⟩ | ⟨_, rfl, rfl⟩
        · omega
        · exact ⟨rfl, rfl⟩
def NamedRes (fs : List Fn) (s : ByteArray) (w : World) (e : Ending) (w' : World) : Prop := ∃ v c, e = .returned (.tuple #[.int .i64 v, .int .i64 c]) ∧ NamedIs fs s v c ∧ Below w.heap.size w w'

set_option maxRecDepth 100000 in
set_option maxHeartbeats 3200000 in
theorem iFuncNamed (fs : List Fn) (ap : Option Addr) (capp : Nat) (s : ByteArray) (w : World) (hP : Pat w 0 w.heap.size fs ap) (hsz : pgSize fs ≤ 1048576) (hcap : fs.length ≤ capp) (hcm : capp ≤ 1048576) :
    Calls Try.prog 41 #[.agg #[.slice ap fs.length capp], .string s] w (NamedRes fs s w) := by
  have hl : fs.length ≤ 1048576 := by unfold pgSize at hsz; omega
  obtain ⟨w0, hw0⟩ : ∃ w0, w0 = w.alloc (.cells #[.slice ap fs.length capp] 49) := ⟨_, rfl⟩
  have hb0 : Below w.heap.size w w0 := by rw [hw0]; exact (Below.refl _ _).alloc (Nat.le_refl _) _
  have z0 : w0.heap.size = w.heap.size + 1 := by rw [hw0]; simp
  have c0 : w0.cell? ⟨w.heap.size, 0, none⟩ = some (.slice ap fs.length capp) := by rw [hw0]; simp [go_sem]
  have hP0 : Pat w0 0 w0.heap.size fs ap := (hP.below hb0).mono (Nat.le_refl _) hb0.size
  have HV := Lib.hid (iValidProgram fs ap capp w0 hP0 hsz hcap hcm)
  cases hpb : progB fs with
  | false =>
    have HN : Hid (NamedIs fs s 0 1) := .inl ⟨hpb, rfl, rfl⟩
    rw [hpb] at HV
    clear hpb hP hP0
    go_enter Try.func41, Try.ntmps41
    go_wp2_with fail
    rw [← hw0]
    clear hw0
    refine (HV.out).mono ?_; rintro e w1 ⟨rfl, hb1⟩
    go_wp2_with fail
    go_ret2
    exact ⟨_, _, rfl, HN.out, hb0.trans (hb1.mono (by omega))⟩
  | true =>
    have HP : Hid (progB fs = true) := hpb
    rw [hpb] at HV
    clear hpb hP
    go_enter Try.func41, Try.ntmps41
    go_wp2_with fail
    rw [← hw0]
    clear hw0
    refine (HV.out).mono ?_; rintro e w1 ⟨rfl, hb1⟩
    have c1 := (hb1.cell (p := ⟨w.heap.size, 0, none⟩) (by show w.heap.size < _; omega)).trans c0
    have z1 := hb1.size
    have hP1 := (hP0.below hb1).mono (Nat.le_refl _) hb1.size
    have hB1 := hb0.trans (hb1.mono (by omega))
    clear c0 hP0 HV
    go_wp2_with fail
    refine (iIndexOf fs ap fs.length capp s _ hP1 (Nat.le_refl _) hl).mono ?_; rintro e w2 ⟨r, rfl, hI, hb2⟩
    have hB2 := hB1.trans (hb2.mono hB1.size)
    by_cases hr : r < 0
    · have HN : Hid (NamedIs fs s 0 9) := .inr ⟨HP.out, r, hI, .inl ⟨hr, rfl, rfl⟩⟩
      have hd : decide (r < 0) = true := decide_eq_true hr
      clear hI hP1 c1
      go_wp2_with fail
      go_ret2
      exact ⟨_, _, rfl, HN.out, hB2⟩
    · have HN : Hid (NamedIs fs s r 0) := .inr ⟨HP.out, r, hI, .inr ⟨by omega, rfl, rfl⟩⟩
      have hd : decide (r < 0) = false := decide_eq_false hr
      clear hI hP1 c1
      go_wp2_with fail
      go_ret2
      exact ⟨_, _, rfl, HN.out, hB2⟩

set_option maxRecDepth 100000 in
set_option maxHeartbeats 3200000 in
theorem sFuncNamed (fs : List Fn) (ap : Option Addr) (capp : Nat) (s : ByteArray) (w : World) (hP : Pat w 0 w.heap.size fs ap) (hsz : pgSize fs ≤ 1048576) :
    Calls Try.prog 40 #[.agg #[.slice ap fs.length capp], .string s] w (NamedRes fs s w) := by
  have hl : fs.length ≤ 1048576 := by unfold pgSize at hsz; omega
  obtain ⟨w0, hw0⟩ : ∃ w0, w0 = w.alloc (.cells #[.slice ap fs.length capp] 49) := ⟨_, rfl⟩
  have hb0 : Below w.heap.size w w0 := by rw [hw0]; exact (Below.refl _ _).alloc (Nat.le_refl _) _
  have z0 : w0.heap.size = w.heap.size + 1 := by rw [hw0]; simp
  have c0 : w0.cell? ⟨w.heap.size, 0, none⟩ = some (.slice ap fs.length capp) := by rw [hw0]; simp [go_sem]
  have hP0 : Pat w0 0 w0.heap.size fs ap := (hP.below hb0).mono (Nat.le_refl _) hb0.size
  have HV := Lib.hid (sOkP fs w.heap.size 0 ap capp w0 c0 hP0 hsz)
  cases hpb : progB fs with
  | false =>
    have HN : Hid (NamedIs fs s 0 1) := .inl ⟨hpb, rfl, rfl⟩
    rw [hpb] at HV
    clear hpb hP hP0
    go_enter Try.func40, Try.ntmps40
    go_wp2_with fail
    rw [← hw0]
    clear hw0
    refine (HV.out).mono ?_; rintro e w1 ⟨rfl, hq⟩
    obtain ⟨q, rfl⟩ := hq
    go_wp2_with fail
    go_ret2
    exact ⟨_, _, rfl, HN.out, below_drewN hb0 _⟩
  | true =>
    have HP : Hid (progB fs = true) := hpb
    rw [hpb] at HV
    clear hpb hP
    go_enter Try.func40, Try.ntmps40
    go_wp2_with fail
    rw [← hw0]
    clear hw0
    refine (HV.out).mono ?_; rintro e w1 ⟨rfl, hq⟩
    have hb1 : Below w0.heap.size w0 w1 := by obtain ⟨q, rfl⟩ := hq; exact below_drewN (Below.refl _ _) _
    have c1 := (hb1.cell (p := ⟨w.heap.size, 0, none⟩) (by show w.heap.size < _; omega)).trans c0
    have z1 := hb1.size
    have hP1 := (hP0.below hb1).mono (Nat.le_refl _) hb1.size
    have hB1 := hb0.trans (hb1.mono (by omega))
    clear c0 hP0 HV hq
    go_wp2_with fail
    go_loop [6] (fun q => ∃ i : Nat, i ≤ fs.length ∧ q = .int .i64 i ∧ Hid (∀ t, t < i → (fs.getD t noFn).name ≠ s)) (fun q => fs.length - (intOf q).toNat)
    case atStart => exact ⟨0, Nat.zero_le _, rfl, (fun t ht => by omega)⟩
    case round =>
      obtain ⟨i, hi, rfl, HX⟩ := hrel
      by_cases hlt : i < fs.length
      · have hii : (i : Int) < (fs.length : Int) := by omega
        obtain ⟨bf, of, rfl, hbB, hall⟩ := (hP1.resolve_left (by intro e; rw [e] at hlt; simp at hlt))
        obtain ⟨hr, af, cf, f0, f1, f2, _⟩ := hall i hlt
        clear f1 f2 hr hall hP1
        by_cases heq : (fs.getD i noFn).name = s
        · have HN : Hid (NamedIs fs s (i : Int) 0) := .inr ⟨HP.out, i, .inr ⟨i, hlt, rfl, heq, HX.out⟩, .inr ⟨by omega, rfl, rfl⟩⟩
          rw [heq] at f0
          clear heq HX
          go_wp2_with fail
          go_ret2
          exact ⟨_, _, rfl, HN.out, hB1⟩
        · have HX2 : Hid (∀ t, t < i + 1 → (fs.getD t noFn).name ≠ s) := by
            intro t ht
            by_cases hti : t = i
            · rw [hti]; exact heq
            · exact HX.out t (by omega)
          generalize (fs.getD i noFn).name = nm at f0 heq
          have hq := str_ne heq
          clear heq HX
          go_wp2_with fail
          go_round
          case rel => exact ⟨i + 1, by omega, by go_num, HX2⟩
          case measure => simp [intOf]; omega
      · have hii : ¬ (i : Int) < (fs.length : Int) := by omega
        have HN : Hid (NamedIs fs s 0 9) := .inr ⟨HP.out, -1, .inl ⟨rfl, fun j hj => HX.out j (by omega)⟩, .inl ⟨by omega, rfl, rfl⟩⟩
        clear HX hP1
        go_wp2_with fail
        go_ret2
        exact ⟨_, _, rfl, HN.out, hB1⟩

end Go.Proofs.Ytiimebiecihpkaa
