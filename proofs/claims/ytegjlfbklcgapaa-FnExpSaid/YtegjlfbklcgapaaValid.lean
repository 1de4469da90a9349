/- Which lists are series, by the model and by the program. -/
import Derived.Test.YtegjlfbklcgapaaCopy
namespace Go.Proofs.Ytegjlfbklcgapaa
open Go.RowKit

def okNum (n : Int) : Bool := decide (0 ≤ n ∧ n < 1000003)
def okNums (l : List Int) : Bool := l.all okNum
def okS (l : List Int) : Bool := decide (1 ≤ l.length ∧ l.length ≤ 13) && okNums l

theorem okNum_t {n : Int} (h : okNum n = true) : 0 ≤ n ∧ n < 1000003 := by simpa [okNum] using h
theorem okNum_f {n : Int} (h : okNum n = false) : n < 0 ∨ 1000003 ≤ n := by
  simp [okNum] at h; omega
theorem okNums_take_zero (l : List Int) : okNums (l.take 0) = true := by simp [okNums]
theorem okNums_succ {l : List Int} {k : Nat} (hk : k < l.length) (h : okNums (l.take k) = true) (h2 : okNum (l.getD k 0) = true) : okNums (l.take (k + 1)) = true := by
  rw [← take_snoc hk]; unfold okNums at *; rw [List.all_append, h]; simp only [List.all_cons, List.all_nil, Bool.and_true, Bool.true_and]; exact h2
theorem okNums_bad {l : List Int} {k : Nat} (hk : k < l.length) (h2 : okNum (l.getD k 0) = false) : okNums l = false := by
  unfold okNums
  rw [List.all_eq_false]
  exact ⟨_, getD_mem hk, by rw [h2]; simp⟩
theorem okNums_nums {l : List Int} (h : okNums l = true) : Nums l := by
  intro n hn
  unfold okNums at h
  rw [List.all_eq_true] at h
  exact okNum_t (h n hn)
theorem okS_t {l : List Int} (h : okS l = true) : 1 ≤ l.length ∧ l.length ≤ 13 ∧ Nums l := by
  simp [okS] at h
  exact ⟨h.1.1, h.1.2, okNums_nums h.2⟩
theorem okS_long {l : List Int} (h : ¬ (1 ≤ l.length ∧ l.length ≤ 13)) : okS l = false := by
  simp only [okS, h, decide_false, Bool.false_and]
theorem okS_short {l : List Int} (h : 1 ≤ l.length ∧ l.length ≤ 13) : okS l = okNums l := by
  simp only [okS, h, and_self, decide_true, Bool.true_and]
theorem nums_okS {l : List Int} (h1 : 1 ≤ l.length) (h2 : l.length ≤ 13) (h : Nums l) : okS l = true := by
  rw [okS_short ⟨h1, h2⟩]; unfold okNums; rw [List.all_eq_true]; intro n hn; have := h n hn; simp [okNum, this]

theorem ret_bool {a b : Bool} (h : a = b) : Ending.returned (.bool a) = .returned (.bool b) := by rw [h]

set_option maxHeartbeats 400000 in
theorem inT (n lo hi : Int) (h1 : lo ≤ n) (h2 : n ≤ hi) (w : World) :
    Calls Try.prog 83 #[.int .i64 n, .int .i64 lo, .int .i64 hi] w fun e w' => e = .returned (.bool true) ∧ w = w' := by
  go_enter Try.func83, Try.ntmps83
  go_wp2
  go_ret
  exact ⟨rfl, rfl⟩
set_option maxHeartbeats 400000 in
theorem inF (n lo hi : Int) (h : n < lo ∨ hi < n) (w : World) :
    Calls Try.prog 83 #[.int .i64 n, .int .i64 lo, .int .i64 hi] w fun e w' => e = .returned (.bool false) ∧ w = w' := by
  by_cases h1 : n < lo
  · clear h
    have hd : decide (lo ≤ n) = false := by simp; omega
    go_enter Try.func83, Try.ntmps83
    go_wp2
    go_ret
    exact ⟨rfl, rfl⟩
  · have h2 : hi < n := by omega
    have h3 : lo ≤ n := by omega
    have hd : decide (n ≤ hi) = false := by simp; omega
    clear h h1
    go_enter Try.func83, Try.ntmps83
    go_wp2
    go_ret
    exact ⟨rfl, rfl⟩

set_option maxHeartbeats 400000 in
theorem sNumber (n : Int) (w : World) :
    Calls Try.prog 123 #[.int .i64 n] w fun e w' => e = .returned (.bool (okNum n)) ∧ w = w' := by
  cases hn : okNum n with
  | true =>
    have := okNum_t hn
    go_enter Try.func123, Try.ntmps123
    go_wp2_with fail
    refine (inT n 0 1000002 (by omega) (by omega) _).mono ?_; rintro e w' ⟨rfl, rfl⟩
    go_wp2_with fail
    go_ret
    exact ⟨rfl, rfl⟩
  | false =>
    have := okNum_f hn
    go_enter Try.func123, Try.ntmps123
    go_wp2_with fail
    refine (inF n 0 1000002 (by omega) _).mono ?_; rintro e w' ⟨rfl, rfl⟩
    go_wp2_with fail
    go_ret
    exact ⟨rfl, rfl⟩

set_option maxHeartbeats 800000 in
theorem sNumbers (a : Option Addr) (cap : Nat) (l : List Int) (w : World) (h : At w a l) (hl : l.length ≤ 9223372036854775806) :
    Calls Try.prog 112 #[.slice a l.length cap] w fun e w' => e = .returned (.bool (okNums l)) ∧ w = w' := by
  have h0 := Lib.hid (okNums_take_zero l)
  go_enter Try.func112, Try.ntmps112
  go_wp2
  go_loop [3] (fun i => ∃ k : Nat, k ≤ l.length ∧ i = .int .i64 k ∧ Hid (okNums (l.take k) = true)) (fun i => l.length - (intOf i).toNat)
  case atStart => exact ⟨0, Nat.zero_le _, rfl, h0⟩
  case round =>
    obtain ⟨k, hk, rfl, hok⟩ := hrel
    by_cases hlt : k < l.length
    · obtain ⟨b, off, rfl, hbl, hc⟩ := (h.resolve_left (by intro e; rw [e] at hlt; simp at hlt))
      have hck := hc k hlt
      cases hx : okNum (l.getD k 0) with
      | true =>
        have hs := Lib.hid (okNums_succ hlt hok.out hx)
        clear hc h hok h0
        generalize l.getD k 0 = x at hck hx
        have HX := Lib.hid hx
        clear hx
        go_wp2_with fail
        refine (sNumber x _).mono ?_; rintro e w' ⟨rfl, rfl⟩
        rw [HX.out]
        go_wp2_with fail
        go_round
        case rel => exact ⟨k + 1, by omega, by go_num, hs⟩
        case measure => simp [intOf]; omega
      | false =>
        have hs := Lib.hid (okNums_bad hlt hx)
        clear hc h hok h0
        generalize l.getD k 0 = x at hck hx
        have HX := Lib.hid hx
        clear hx
        go_wp2_with fail
        refine (sNumber x _).mono ?_; rintro e w' ⟨rfl, rfl⟩
        rw [HX.out]
        go_wp2_with fail
        go_ret
        exact ⟨ret_bool hs.out.symm, rfl⟩
    · have hkk : k = l.length := by omega
      subst hkk
      have hs := Lib.hid (show okNums l = true by have := hok.out; rwa [List.take_length] at this)
      clear hok h0
      go_wp2
      go_ret
      exact ⟨ret_bool hs.out.symm, rfl⟩

set_option maxHeartbeats 800000 in
theorem sOk (a : Option Addr) (cap : Nat) (l : List Int) (w : World) (h : At w a l) (hl : l.length ≤ 9223372036854775806) :
    Calls Try.prog 85 #[.slice a l.length cap] w fun e w' => e = .returned (.bool (okS l)) ∧ w = w' := by
  by_cases hn : 1 ≤ l.length ∧ l.length ≤ 13
  · have hs := Lib.hid (okS_short hn)
    obtain ⟨h1, h2⟩ := hn
    go_enter Try.func85, Try.ntmps85
    go_wp2_with fail
    refine (inT _ 1 13 (by omega) (by omega) _).mono ?_; rintro e w' ⟨rfl, rfl⟩
    go_wp2_with fail
    refine (sNumbers a cap l _ h hl).mono ?_; rintro e w' ⟨rfl, rfl⟩
    go_wp2_with fail
    go_ret
    exact ⟨ret_bool hs.out.symm, rfl⟩
  · have hs := Lib.hid (okS_long hn)
    go_enter Try.func85, Try.ntmps85
    go_wp2_with fail
    refine (inF _ 1 13 (by omega) _).mono ?_; rintro e w' ⟨rfl, rfl⟩
    go_wp2_with fail
    go_ret
    exact ⟨ret_bool hs.out.symm, rfl⟩

set_option maxHeartbeats 800000 in
theorem sValid (a : Option Addr) (cap : Nat) (l : List Int) (w : World) (h : At w a l) (hl : l.length ≤ 9223372036854775806) :
    Calls Try.prog 55 #[.slice a l.length cap] w fun e w' => e = .returned (.bool (okS l)) ∧ w = w' := by
  go_enter Try.func55, Try.ntmps55
  go_wp2_with fail
  refine (sOk a cap l _ h hl).mono ?_; rintro e w' ⟨rfl, rfl⟩
  go_wp2_with fail
  go_ret
  exact ⟨rfl, rfl⟩

set_option maxHeartbeats 800000 in
theorem iValid (a : Option Addr) (cap : Nat) (l : List Int) (w : World) (h : At w a l) (hl : l.length ≤ 9223372036854775806) :
    Calls Try.prog 57 #[.slice a l.length cap] w fun e w' => e = .returned (.bool (okS l)) ∧ w = w' := by
  by_cases hn : 1 ≤ l.length ∧ l.length ≤ 13
  · have hs := Lib.hid (okS_short hn)
    obtain ⟨h1, h2⟩ := hn
    have h0 := Lib.hid (okNums_take_zero l)
    go_enter Try.func57, Try.ntmps57
    go_wp2
    go_loop [4, 15] (fun _ i => ∃ k : Nat, k ≤ l.length ∧ i = .int .i64 k ∧ Hid (okNums (l.take k) = true)) (fun _ i => l.length - (intOf i).toNat)
    case atStart => exact ⟨0, Nat.zero_le _, rfl, h0⟩
    case round =>
      obtain ⟨k, hk, rfl, hok⟩ := hrel
      by_cases hlt : k < l.length
      · obtain ⟨b, off, rfl, hbl, hc⟩ := (h.resolve_left (by intro e; rw [e] at hlt; simp at hlt))
        have hck := hc k hlt
        cases hx : okNum (l.getD k 0) with
        | true =>
          have hs := Lib.hid (okNums_succ hlt hok.out hx)
          clear hc h hok h0
          generalize l.getD k 0 = x at hck hx
          have := okNum_t hx
          have t1 : 0 ≤ x := this.1
          have t2 : x < 1000003 := this.2
          clear hx this
          go_wp2
          go_round
          case rel => exact ⟨k + 1, by omega, by go_num, hs⟩
          case measure => simp [intOf]; omega
        | false =>
          have hb := Lib.hid (okNums_bad hlt hx)
          clear hc h hok h0
          generalize l.getD k 0 = x at hck hx
          have := okNum_f hx
          clear hx
          by_cases t1 : x < 0
          · clear this
            go_wp2
            go_ret
            exact ⟨ret_bool (hs.out.trans hb.out).symm, rfl⟩
          · have t2 : 1000003 ≤ x := by omega
            clear this
            go_wp2
            go_ret
            exact ⟨ret_bool (hs.out.trans hb.out).symm, rfl⟩
      · have hkk : k = l.length := by omega
        subst hkk
        have hb := Lib.hid (show okNums l = true by have := hok.out; rwa [List.take_length] at this)
        clear hok h0
        go_wp2
        go_ret
        exact ⟨ret_bool (hs.out.trans hb.out).symm, rfl⟩
  · have hs := Lib.hid (okS_long hn)
    by_cases h1 : l.length < 1
    · have hz : l.length = 0 := by omega
      clear hn
      go_enter Try.func57, Try.ntmps57
      go_wp2
      go_ret
      exact ⟨ret_bool hs.out.symm, rfl⟩
    · have h2 : 13 < l.length := by omega
      have h3 : 1 ≤ l.length := by omega
      clear hn h1
      go_enter Try.func57, Try.ntmps57
      go_wp2
      go_ret
      exact ⟨ret_bool hs.out.symm, rfl⟩

end Go.Proofs.Ytegjlfbklcgapaa
