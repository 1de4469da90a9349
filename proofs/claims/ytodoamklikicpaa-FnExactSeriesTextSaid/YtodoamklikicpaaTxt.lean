/- Numbers and series as texts: the model's and the program's. -/
import Derived.Test.YtodoamklikicpaaOps
import Derived.Deep.RegionWith
import Derived.Laws.Concat
import Derived.Laws.BytesString
import Derived.Laws.IdiomStrings
import Derived.Laws.Cover4
namespace Go.Proofs.Ytodoamklikicpaa
open Go.RowKit
set_option linter.unusedVariables false
attribute [local go_sem ↓] Go.wp_at_zero Go.wp_at_succ

/-- a digit -/
def dch (n : Nat) : UInt8 := UInt8.ofNat (48 + n)
/-- the digits of a number of at most f digits -/
def dgf : Nat → Nat → List UInt8
  | 0, _ => []
  | f + 1, n => if n < 10 then [dch n] else dgf f (n / 10) ++ [dch (n % 10)]
theorem dgf_len : ∀ f n, (dgf f n).length ≤ f := by
  intro f
  induction f with
  | zero => intro n; simp [dgf]
  | succ f ih =>
    intro n
    rw [dgf]
    split
    · simp
    · have := ih (n / 10); simp; omega
def digs (n : Nat) : List UInt8 := dgf 19 n
/-- the text of the first k numbers -/
def lst (l : List Int) : Nat → List UInt8
  | 0 => []
  | k + 1 => lst l k ++ (if k = 0 then [] else [32]) ++ digs (l.getD k 0).toNat
theorem digs_len (n : Nat) : (digs n).length ≤ 19 := dgf_len 19 n
theorem lst_len (l : List Int) (k : Nat) : (lst l k).length ≤ 20 * k := by
  induction k with
  | zero => simp [lst]
  | succ k ih =>
    have h := digs_len (l.getD k 0).toNat
    rw [lst, List.length_append, List.length_append]
    generalize digs (l.getD k 0).toNat = d at h
    split
    · rw [List.length_nil]; omega
    · rw [List.length_singleton]; omega
def strl (l : List UInt8) : ByteArray := ⟨l.toArray⟩
theorem strl_size (l : List UInt8) : (strl l).size = l.length := by simp [strl, ByteArray.size]
theorem strl_append (a b : List UInt8) : strl a ++ strl b = strl (a ++ b) := by unfold strl; rw [ByteArray.mk_append_mk]
theorem ret_str {a b : ByteArray} (h : a = b) : Ending.returned (.string a) = .returned (.string b) := by rw [h]

theorem byte_nat {n : Nat} (h : n < 10) : ((dch n).toNat : Int) = 48 + (n : Int) := by
  have e1 : (dch n).toNat = 48 + n := by unfold dch; simp; omega
  rw [e1]; omega
/-- a string of one digit, out of its cell -/
theorem conv_digit {n : Nat} (h : n < 10) (v : World) (b : Nat) (hc : v.cell? ⟨b, 0, none⟩ = some (.int .u8 (48 + (n : Int)))) :
    (convert 22 9 (.slice (some ⟨b, 0, none⟩) 1 1)).run Try.prog v = .ok (.string (strl [dch n])) v := by
  refine run_convert_bytes_back _ _ _ 5 ⟨b, 0, none⟩ 1 [dch n] Try.underlying22 Try.underlying5 Try.underlying9 ?_
  intro j hj
  have hj0 : j = 0 := by simpa using hj
  subst hj0
  have e : ((⟨b, 0, none⟩ : Addr).add 0) = ⟨b, 0, none⟩ := rfl
  rw [e, hc]
  show some (Value.int .u8 (48 + (n : Int))) = some (Value.int .u8 ((dch n).toNat : Int))
  rw [byte_nat h]
theorem wrap_u8 {x : Int} (h0 : 0 ≤ x) (h1 : x < 256) : IntKind.u8.wrap x = x := by
  have e : IntKind.u8.wrap x = x % 256 := rfl
  rw [e]; omega
theorem Below.cells {W w1 : World} (hb : Below W.heap.size W w1) : ∀ b o, b < W.heap.size → w1.cell? ⟨b, o, none⟩ = W.cell? ⟨b, o, none⟩ := fun b o h => hb.cell (p := ⟨b, o, none⟩) h

set_option maxRecDepth 100000 in
set_option maxHeartbeats 1600000 in
theorem sDecimalF : ∀ (f n : Nat) (w : World), f ≤ 1000 → n < 10 ^ (f + 1) → n ≤ 9223372036854775807 →
    Calls Try.prog 51 #[.int .i64 n] w fun e w' => e = .returned (.string (strl (dgf (f + 1) n))) ∧ Below w.heap.size w w' := by
  intro f
  induction f with
  | zero =>
    intro n w hff hn hb
    have h10 : n < 10 := by simpa using hn
    have hi : (n : Int) < 10 := by omega
    have hfin : Hid (strl [dch n] = strl (dgf (0 + 1) n)) := by show _ = _; rw [dgf, if_pos h10]
    have hcv := conv_digit h10
    have HX := Lib.hid hn
    clear hn
    go_enter Try.func51, Try.ntmps51
    go_wp2_with fail
    go_ret
    exact ⟨ret_str hfin.out, (Below.refl _ _).alloc (Nat.le_refl _) _⟩
  | succ f ih =>
    intro n w hff hn hb
    by_cases h10 : n < 10
    · have hi : (n : Int) < 10 := by omega
      have hfin : Hid (strl [dch n] = strl (dgf (f + 1 + 1) n)) := by show _ = _; rw [dgf, if_pos h10]
      have hcv := conv_digit h10
      clear ih hn
      go_enter Try.func51, Try.ntmps51
      go_wp2_with fail
      go_ret
      exact ⟨ret_str hfin.out, (Below.refl _ _).alloc (Nat.le_refl _) _⟩
    · have hi : ¬ (n : Int) < 10 := by omega
      obtain ⟨q, hq⟩ : ∃ q : Nat, q = n / 10 := ⟨_, rfl⟩
      obtain ⟨r, hr⟩ : ∃ r : Nat, r = n % 10 := ⟨_, rfl⟩
      have hlt : r < 10 := by omega
      have hfin : Hid (strl (dgf (f + 1) q) ++ strl [dch r] = strl (dgf (f + 1 + 1) n)) := by show _ = _; rw [strl_append, dgf.eq_2 n, if_neg h10, hq, hr]
      have hd : q < 10 ^ (f + 1) := by rw [Nat.pow_succ] at hn; omega
      have hl1 := dgf_len (f + 1) q
      have IH := Lib.hid (fun v => ih q v (by omega) hd (by omega))
      have hcv := conv_digit hlt
      have hs1 : (strl (dgf (f + 1) q)).size ≤ f + 1 := by rw [strl_size]; exact hl1
      have hs2 : (strl [dch r]).size ≤ 1 := by rw [strl_size]; exact Nat.le_refl _
      have q1 : (n : Int) / 10 = (q : Int) := by omega
      have q2 : (n : Int).tdiv 10 = (q : Int) := by rw [Int.tdiv_eq_ediv_of_nonneg (by omega)]; exact q1
      have r1 : (n : Int) % 10 = (r : Int) := by omega
      have r2 : (n : Int).tmod 10 = (r : Int) := by rw [Int.tmod_eq_emod_of_nonneg (by omega)]; exact r1
      have w1 : IntKind.i64.wrap (48 + (r : Int)) = 48 + (r : Int) := IntWalk.i64_in _ (by omega)
      have w2 : IntKind.i64.wrap (q : Int) = (q : Int) := IntWalk.i64_in _ (by omega)
      have w3 : IntKind.u8.wrap (48 + (r : Int)) = 48 + (r : Int) := wrap_u8 (by omega) (by omega)
      have b1 : (r : Int) < 10 := by omega
      clear ih hn hd hl1 hr hq
      generalize strl (dgf (f + 1) q) = s1 at IH hs1 hfin
      generalize strl [dch r] = s2 at hcv hs2 hfin
      go_enter Try.func51, Try.ntmps51
      go_wp2
      go_region_with (go_at_call 51; (with_reducible refine (IH.out _).mono ?_); rintro e w' ⟨rfl, hb⟩; have hc := Below.cells hb)
      all_goals
        go_wp2
        go_ret
        refine ⟨ret_str hfin.out, ?_⟩
        first
          | exact ((Below.refl w.heap.size w).drew.trans hb).alloc (by have := hb.size; simpa using this) _
          | exact (((Below.refl w.heap.size w).alloc (Nat.le_refl _) _).drew).trans (hb.mono (by simp))

theorem sDecimal (n : Nat) (w : World) (hb : n ≤ 9223372036854775807) :
    Calls Try.prog 51 #[.int .i64 n] w fun e w' => e = .returned (.string (strl (digs n))) ∧ Below w.heap.size w w' :=
  sDecimalF 18 n w (by omega) (by omega) hb

set_option maxRecDepth 100000 in
set_option maxHeartbeats 1600000 in
theorem sList (a : Option Addr) (cap : Nat) (l : List Int) (w : World) (h : At w a l) (hn : Nums l) (hl : l.length ≤ 1000) :
    Calls Try.prog 32 #[.slice a l.length cap] w fun e w' => e = .returned (.string (strl (lst l l.length))) ∧ Below w.heap.size w w' := by
  go_enter Try.func32, Try.ntmps32
  go_wp2
  go_loopw [3, 4] (fun s i wr => ∃ (k : Nat) (t : ByteArray), k ≤ l.length ∧ i = .int .i64 k ∧ s = .string t ∧ t.size ≤ 20 * k ∧ Hid (t = strl (lst l k)) ∧ Below w.heap.size w wr) (fun _ i _ => l.length - (intOf i).toNat)
  case atStart => exact ⟨0, _, Nat.zero_le _, rfl, rfl, by simp [ByteArray.size], rfl, Below.refl _ _⟩
  case round =>
    obtain ⟨k, t, hk, rfl, rfl, hts, ht, hw⟩ := hrel
    by_cases hlt : k < l.length
    · obtain ⟨b, off, rfl, hbl, hc⟩ := (h.resolve_left (by intro e; rw [e] at hlt; simp at hlt))
      have hck : wr.cell? ⟨b, off + k, none⟩ = some (.int .i64 (l.getD k 0)) := (hw.cell (p := ⟨b, off + k, none⟩) hbl).trans (hc k hlt)
      have hx := hn.at k
      have hki : (k : Int) < (l.length : Int) := by omega
      have hdl := digs_len (l.getD k 0).toNat
      have hnx : Hid (t ++ (strl (if k = 0 then [] else [32]) ++ strl (digs (l.getD k 0).toNat)) = strl (lst l (k + 1))) := by show _ = _; rw [ht.out, strl_append, strl_append, lst, List.append_assoc]
      clear hc h ht
      generalize l.getD k 0 = x at hck hx hdl hnx
      obtain ⟨m, rfl⟩ := Int.eq_ofNat_of_zero_le hx.1
      rw [Int.toNat_natCast] at hdl hnx
      have hs2 : (strl (digs m)).size ≤ 19 := by rw [strl_size]; exact hdl
      have hm : m ≤ 9223372036854775807 := by omega
      have HD := Lib.hid (fun v => sDecimal m v hm)
      generalize strl (digs m) = d at hs2 hnx HD
      by_cases h0 : k = 0
      · have hp : ¬ (0 : Int) < (k : Int) := by omega
        have hfin : Hid (t ++ d = strl (lst l (k + 1))) := by
          have := hnx.out
          rw [if_pos h0] at this
          show _ = _
          rw [← this]
          congr 1
        clear h0 hnx
        go_wp2_with fail
        refine (HD.out _).mono ?_; rintro e w' ⟨rfl, hb⟩
        have hw2 := hw.trans (hb.mono hw.size)
        go_wp2_with fail
        go_roundw
        case rel => exact ⟨k + 1, t ++ d, by omega, by go_num, rfl, by rw [ByteArray.size_append]; omega, hfin, hw2⟩
        case measure => simp [intOf]; omega
      · have hp : (0 : Int) < (k : Int) := by omega
        have hfin : Hid ((t ++ strl [32]) ++ d = strl (lst l (k + 1))) := by
          have := hnx.out
          rw [if_neg h0] at this
          show _ = _
          rw [← this, ByteArray.append_assoc]
        have hbl2 : Hid (strl [32] = (⟨#[32]⟩ : ByteArray)) := rfl
        rw [hbl2.out] at hfin
        have ht1 : (t ++ (⟨#[32]⟩ : ByteArray)).size ≤ 20 * k + 1 := by rw [ByteArray.size_append, show (⟨#[32]⟩ : ByteArray).size = 1 from rfl]; omega
        clear h0 hnx
        go_wp2_with fail
        refine (HD.out _).mono ?_; rintro e w' ⟨rfl, hb⟩
        have hw2 := hw.trans (hb.mono hw.size)
        go_wp2_with fail
        go_roundw
        case rel => exact ⟨k + 1, _, by omega, by go_num, rfl, by rw [ByteArray.size_append]; omega, hfin, hw2⟩
        case measure => simp [intOf]; omega
    · have hkk : k = l.length := by omega
      subst hkk
      go_wp2
      go_ret
      exact ⟨ret_str ht.out, hw⟩

set_option maxHeartbeats 800000 in
theorem sSeriesText (a : Option Addr) (cap : Nat) (l : List Int) (w : World) (h : At w a l) (hl : l.length ≤ 1048576) :
    Calls Try.prog 17 #[.slice a l.length cap] w fun e w' => e = .returned (.string (strl (if okS l = true then lst l l.length else []))) ∧ Below w.heap.size w w' := by
  cases h1 : okS l with
  | true =>
    obtain ⟨hl1, hl13, hn⟩ := okS_t h1
    have H1 := Lib.hid h1
    clear h1
    go_enter Try.func17, Try.ntmps17
    go_wp2_with fail
    refine (sOk a cap l _ h (by omega)).mono ?_; rintro e w' ⟨rfl, rfl⟩
    rw [H1.out]
    go_wp2_with fail
    refine (sList a cap l _ h hn (by omega)).mono ?_; rintro e w1 ⟨rfl, hb⟩
    go_wp2_with fail
    go_ret
    exact ⟨rfl, hb⟩
  | false =>
    have H1 := Lib.hid h1
    clear h1
    go_enter Try.func17, Try.ntmps17
    go_wp2_with fail
    refine (sOk a cap l _ h (by omega)).mono ?_; rintro e w' ⟨rfl, rfl⟩
    rw [H1.out]
    go_wp2_with fail
    go_ret
    exact ⟨rfl, Below.refl _ _⟩

/-- a slice of runes of the call's own that reads as these bytes -/
def OwnR (B : Nat) (w : World) (v : Value) (t : List UInt8) : Prop := w.ownsRow B 21 1 v t.length (t.map fun c => Value.int .i32 (c.toNat : Int))
theorem info32 : (Try.prog.info? 21).map (fun i => (i.zero, i.size, i.bytes)) = some (some (.int .i32 0), 1, 4) := by kernel_rfl
theorem OwnR.own {B : Nat} {w : World} {v : Value} {t : List UInt8} (h : OwnR B w v t) : ∀ g, v.ownBlock = some g → B ≤ g := by
  intro g hg
  rcases h.2 with ⟨hv, _⟩ | ⟨g', cap, cur, hv, hB, _⟩
  · rw [hv] at hg; cases hg
  · rw [hv] at hg; cases hg; exact hB

theorem ownR_snoc {B : Nat} {w : World} {v : Value} {t : List UInt8} {n : Nat} (h10 : n < 10) (h : w.ownsRow B 21 1 v (t.length + 1) ((t.map fun c => Value.int .i32 (c.toNat : Int)) ++ [Value.int .i32 (48 + (n : Int))])) : OwnR B w v (t ++ [dch n]) := by
  unfold OwnR
  rw [List.length_append, List.map_append, List.length_singleton]
  show w.ownsRow B 21 1 v (t.length + 1) ((t.map fun c => Value.int .i32 (c.toNat : Int)) ++ [Value.int .i32 ((dch n).toNat : Int)])
  rw [byte_nat h10]; exact h
theorem ret_val {a b : Value} (h : a = b) : Ending.returned a = .returned b := by rw [h]

set_option maxRecDepth 100000 in
set_option maxHeartbeats 1600000 in
theorem iAppendF : ∀ (f n : Nat) (B : Nat) (w0 w : World) (v : Value) (t : List UInt8), f ≤ 100 → n < 10 ^ (f + 1) → n ≤ 9223372036854775807 → t.length ≤ 1000 → OwnR B w v t → B ≤ w.heap.size → Below B w0 w →
    Calls Try.prog 34 #[v, .int .i64 n] w fun e w' => ∃ v', e = .returned v' ∧ OwnR B w' v' (t ++ dgf (f + 1) n) ∧ B ≤ w'.heap.size ∧ Below B w0 w' := by
  intro f
  induction f with
  | zero =>
    intro n B w0 w v t hff hn hb htl ho hB hw
    obtain ⟨i0, hi, hz0, hz1, hz2⟩ := info_parts info32
    have h10 : n < 10 := by simpa using hn
    have hfin : Hid (t ++ dgf (0 + 1) n = t ++ [dch n]) := by show _ = _; rw [dgf, if_pos h10]
    have hin : (n : Int) < 10 := by omega
    have r1 : (n : Int) % 10 = (n : Int) := by omega
    have hob := Lib.hid ho.own
    have ho2 : w.ownsRow B 21 1 v t.length (t.map fun c => Value.int .i32 (c.toNat : Int)) := ho
    have H10 := Lib.hid h10
    clear hn ho
    go_enter Try.func34, Try.ntmps34
    go_wp2_with (at_builtin; refine wpList_append_lies _ rfl _ _ _ rfl B 21 i0 _ 1 4 Try.underlying44 hi hz0 hz1 hz2 rfl (by omega) v t.length (t.map fun c => Value.int .i32 (c.toNat : Int)) rfl (ho2.alloc _) ⟨w.heap.size, 0, none⟩ 1 1 [.int .i32 (48 + (n : Int))] rfl rfl (World.news_of_block (cs := #[.int .i32 (48 + (n : Int))]) (t := 21) (fr := (0, 0)) (heap_alloc_new w _)) (by simp [Value.oneCell']) (by omega) (by unfold maxLen; omega) (by omega) (by simp; omega) (w.heap.size + 1) (by simp) ?_; intro gg cc w1 hown1 hgrow hat hlt1)
    have hw2 := (hw.alloc hB (.cells #[.int .i32 (48 + (n : Int))] 21)).grown hgrow (by simp; omega) hob.out
    go_ret
    exact ⟨_, rfl, by rw [hfin.out]; exact ownR_snoc H10.out hown1, Nat.le_trans hB (Nat.le_trans (by simp) hgrow.size), hw2⟩
  | succ f ih =>
    intro n B w0 w v t hff hn hb htl ho hB hw
    obtain ⟨i0, hi, hz0, hz1, hz2⟩ := info_parts info32
    by_cases h10 : n < 10
    · have hfin : Hid (t ++ dgf (f + 1 + 1) n = t ++ [dch n]) := by show _ = _; rw [dgf, if_pos h10]
      have hin : (n : Int) < 10 := by omega
      have r1 : (n : Int) % 10 = (n : Int) := by omega
      have hob := Lib.hid ho.own
      have ho2 : w.ownsRow B 21 1 v t.length (t.map fun c => Value.int .i32 (c.toNat : Int)) := ho
      have H10 := Lib.hid h10
      clear hn ho ih
      go_enter Try.func34, Try.ntmps34
      go_wp2_with (at_builtin; refine wpList_append_lies _ rfl _ _ _ rfl B 21 i0 _ 1 4 Try.underlying44 hi hz0 hz1 hz2 rfl (by omega) v t.length (t.map fun c => Value.int .i32 (c.toNat : Int)) rfl (ho2.alloc _) ⟨w.heap.size, 0, none⟩ 1 1 [.int .i32 (48 + (n : Int))] rfl rfl (World.news_of_block (cs := #[.int .i32 (48 + (n : Int))]) (t := 21) (fr := (0, 0)) (heap_alloc_new w _)) (by simp [Value.oneCell']) (by omega) (by unfold maxLen; omega) (by omega) (by simp; omega) (w.heap.size + 1) (by simp) ?_; intro gg cc w1 hown1 hgrow hat hlt1)
      have hw2 := (hw.alloc hB (.cells #[.int .i32 (48 + (n : Int))] 21)).grown hgrow (by simp; omega) hob.out
      go_ret
      exact ⟨_, rfl, by rw [hfin.out]; exact ownR_snoc H10.out hown1, Nat.le_trans hB (Nat.le_trans (by simp) hgrow.size), hw2⟩
    · obtain ⟨q, hq⟩ : ∃ q : Nat, q = n / 10 := ⟨_, rfl⟩
      obtain ⟨r, hr⟩ : ∃ r : Nat, r = n % 10 := ⟨_, rfl⟩
      have hlt : r < 10 := by omega
      have hfin : Hid (t ++ dgf (f + 1 + 1) n = (t ++ dgf (f + 1) q) ++ [dch r]) := by show _ = _; rw [dgf.eq_2 n, if_neg h10, hq, hr, List.append_assoc]
      have hd : q < 10 ^ (f + 1) := by rw [Nat.pow_succ] at hn; omega
      have hl1 : (t ++ dgf (f + 1) q).length ≤ 1000 + (f + 1) := by have := dgf_len (f + 1) q; rw [List.length_append]; omega
      have IH := Lib.hid (ih q B w0 w v t (by omega) hd (by omega) htl ho hB hw)
      have q1 : (n : Int) / 10 = (q : Int) := by omega
      have r1 : (n : Int) % 10 = (r : Int) := by omega
      have hi10 : ¬ (n : Int) < 10 := by omega
      have hrb : (r : Int) < 10 := by omega
      have hBw := hw.size
      clear ih hn hd hr hq h10
      go_enter Try.func34, Try.ntmps34
      go_wp2_with fail
      refine IH.out.mono ?_
      rintro e w2 ⟨v2, rfl, ho3, hB3, hw3⟩
      have hob := Lib.hid ho3.own
      have ho2 : w2.ownsRow B 21 1 v2 (t ++ dgf (f + 1) q).length ((t ++ dgf (f + 1) q).map fun c => Value.int .i32 (c.toNat : Int)) := ho3
      clear ho3 IH
      generalize t ++ dgf (f + 1) q = t2 at ho2 hl1 hfin
      go_wp2_with (at_builtin; refine wpList_append_lies _ rfl _ _ _ rfl B 21 i0 _ 1 4 Try.underlying44 hi hz0 hz1 hz2 rfl (by omega) v2 t2.length (t2.map fun c => Value.int .i32 (c.toNat : Int)) rfl (ho2.alloc _) ⟨w2.heap.size, 0, none⟩ 1 1 [.int .i32 (48 + (r : Int))] rfl rfl (World.news_of_block (cs := #[.int .i32 (48 + (r : Int))]) (t := 21) (fr := (0, 0)) (heap_alloc_new w2 _)) (by simp [Value.oneCell']) (by omega) (by unfold maxLen; omega) (by omega) (by simp; omega) (w2.heap.size + 1) (by simp) ?_; intro gg cc w1 hown1 hgrow hat hlt1)
      have hw4 := (hw3.alloc hB3 (.cells #[.int .i32 (48 + (r : Int))] 21)).grown hgrow (by simp; omega) hob.out
      go_ret
      exact ⟨_, rfl, by rw [hfin.out]; exact ownR_snoc hlt hown1, Nat.le_trans hB3 (Nat.le_trans (by simp) hgrow.size), hw4⟩

theorem iAppend (n B : Nat) (w0 w : World) (v : Value) (t : List UInt8) (hb : n ≤ 9223372036854775807) (htl : t.length ≤ 1000) (ho : OwnR B w v t) (hB : B ≤ w.heap.size) (hw : Below B w0 w) :
    Calls Try.prog 34 #[v, .int .i64 n] w fun e w' => ∃ v', e = .returned v' ∧ OwnR B w' v' (t ++ digs n) ∧ B ≤ w'.heap.size ∧ Below B w0 w' :=
  iAppendF 18 n B w0 w v t (by omega) (by omega) hb htl ho hB hw

def Asc (t : List UInt8) : Prop := ∀ c ∈ t, c.toNat < 128
theorem dch_asc {n : Nat} (h : n < 10) : (dch n).toNat < 128 := by have := byte_nat h; omega
theorem dgf_asc : ∀ f n, Asc (dgf f n) := by
  intro f
  induction f with
  | zero => intro n c hc; simp [dgf] at hc
  | succ f ih =>
    intro n c hc
    rw [dgf] at hc
    split at hc
    · rename_i h10; rw [List.mem_singleton] at hc; rw [hc]; exact dch_asc h10
    · rw [List.mem_append, List.mem_singleton] at hc
      rcases hc with hc | hc
      · exact ih _ _ hc
      · rw [hc]; exact dch_asc (Nat.mod_lt _ (by omega))
theorem lst_asc (l : List Int) (k : Nat) : Asc (lst l k) := by
  induction k with
  | zero => intro c hc; simp [lst] at hc
  | succ k ih =>
    intro c hc
    rw [lst, List.mem_append, List.mem_append] at hc
    rcases hc with (hc | hc) | hc
    · exact ih c hc
    · split at hc
      · simp at hc
      · rw [List.mem_singleton] at hc; rw [hc]; decide
    · exact dgf_asc _ _ c hc
theorem encode_asc (c : UInt8) (h : c.toNat < 128) : Utf8.encode (c.toNat : Int) = strl [c] := by
  unfold Utf8.encode
  have hv : Utf8.valid (c.toNat : Int) = true := by simp [Utf8.valid]; omega
  simp only [hv, if_true, Int.toNat_natCast]
  rw [if_pos (by omega)]
  simp [strl]
theorem runes_asc (t : List UInt8) (h : Asc t) : runesBytes (t.map fun c => (c.toNat : Int)) = strl t := by
  have key : ∀ (t : List UInt8) (s : ByteArray), Asc t → (t.map fun c => (c.toNat : Int)).foldl (fun r n => r ++ Utf8.encode n) s = s ++ strl t := by
    intro t
    induction t with
    | nil => intro s _; show s = s ++ ByteArray.empty; simp
    | cons c t ih =>
      intro s hs
      rw [List.map_cons, List.foldl_cons, ih _ (fun d hd => hs d (List.mem_cons_of_mem _ hd)), encode_asc c (hs c (List.mem_cons_self ..)), ByteArray.append_assoc, strl_append]
      rfl
  unfold runesBytes
  rw [key t _ h]
  simp
theorem conv_runes {B : Nat} {v : Value} {t : List UInt8} {w : World} (ho : OwnR B w v t) (h : Asc t) : (convert 44 9 v).run Try.prog w = .ok (.string (strl t)) w := by
  have ho' := ho
  rcases ho.2 with ⟨hv, hl⟩ | ⟨g, cap, cur, hv, hBg, hh, hc, hm, hs, ht⟩
  · have : t = [] := List.eq_nil_of_length_eq_zero hl
    rw [hv, this]
    exact run_convert_runes_nil w _ _ 21 _ _ Try.underlying44 Try.underlying21 Try.underlying9
  · subst hv
    have := run_convert_runes w 44 9 21 ⟨g, 0, none⟩ t.length cap (t.map fun c => (c.toNat : Int)) (by simp) Try.underlying44 Try.underlying21 Try.underlying9 (by
      intro j hj
      have hj' : j < t.length := by simpa using hj
      have e : (⟨g, 0, none⟩ : Addr).add j = ⟨g, j, none⟩ := by cases j <;> simp [Addr.add]
      have hca := World.ownsRow.cellAt ho' j (by omega)
      rw [e, hca, List.getElem?_map, List.getElem?_eq_getElem hj', List.getD_eq_getElem?_getD, List.getElem?_map, List.getElem?_eq_getElem hj']
      rfl)
    rw [this]
    rw [List.take_of_length_le (by simp), runes_asc t h]

set_option maxRecDepth 100000 in
set_option maxHeartbeats 1600000 in
theorem iSeriesText (a : Option Addr) (cap : Nat) (l : List Int) (w : World) (h : At w a l) (hl : l.length ≤ 1048576) :
    Calls Try.prog 19 #[.slice a l.length cap] w fun e w' => e = .returned (.string (strl (if okS l = true then lst l l.length else []))) ∧ Below w.heap.size w w' := by
  cases h1 : okS l with
  | false =>
    have H1 := Lib.hid h1
    clear h1
    go_enter Try.func19, Try.ntmps19
    go_wp2_with fail
    refine (iValid a cap l _ h (by omega)).mono ?_; rintro e w' ⟨rfl, rfl⟩
    rw [H1.out]
    go_wp2_with fail
    go_ret
    exact ⟨rfl, Below.refl _ _⟩
  | true =>
    obtain ⟨hl1, hl13, hn⟩ := okS_t h1
    obtain ⟨i0, hi, hz0, hz1, hz2⟩ := info_parts info32
    have H1 := Lib.hid h1
    have ho0 : OwnR w.heap.size w (.slice none 0 0) (lst l 0) := ⟨by simp [lst], .inl ⟨rfl, rfl⟩⟩
    clear h1
    go_enter Try.func19, Try.ntmps19
    go_wp2_with fail
    refine (iValid a cap l _ h (by omega)).mono ?_; rintro e w' ⟨rfl, rfl⟩
    rw [H1.out]
    go_wp2_with fail
    go_loopw [3, 4, 5, 11] (fun sv _ _ i wr => ∃ (k : Nat) (v : Value), k ≤ l.length ∧ i = .int .i64 k ∧ v = sv ∧ OwnR w.heap.size wr v (lst l k) ∧ w.heap.size ≤ wr.heap.size ∧ Below w.heap.size w wr) (fun _ _ _ i _ => l.length - (intOf i).toNat)
    case atStart => exact ⟨0, _, Nat.zero_le _, rfl, rfl, ho0, Nat.le_refl _, Below.refl _ _⟩
    case round =>
      obtain ⟨k, v, hk, rfl, rfl, ho, hB, hw⟩ := hrel
      have hob := Lib.hid ho.own
      by_cases hlt : k < l.length
      · obtain ⟨b, off, rfl, hbl, hc⟩ := (h.resolve_left (by intro e; rw [e] at hlt; simp at hlt))
        have hck : wr.cell? ⟨b, off + k, none⟩ = some (.int .i64 (l.getD k 0)) := (hw.cell (p := ⟨b, off + k, none⟩) hbl).trans (hc k hlt)
        have hx := hn.at k
        have hki : (k : Int) < (l.length : Int) := by omega
        have htl := lst_len l k
        have hnx : Hid ((lst l k ++ if k = 0 then [] else [32]) ++ digs (l.getD k 0).toNat = lst l (k + 1)) := rfl
        clear hc h ho0
        generalize l.getD k 0 = x at hck hx hnx
        obtain ⟨m, rfl⟩ := Int.eq_ofNat_of_zero_le hx.1
        rw [Int.toNat_natCast] at hnx
        have ho2 : wr.ownsRow w.heap.size 21 1 v (lst l k).length ((lst l k).map fun c => Value.int .i32 (c.toNat : Int)) := ho
        clear ho
        generalize lst l k = t at ho2 htl hnx
        by_cases h0 : k = 0
        · have hp : ¬ (0 : Int) < (k : Int) := by omega
          rw [if_pos h0, List.append_nil] at hnx
          clear h0
          go_wp2_with fail
          refine (iAppend m w.heap.size w _ v t (by omega) (by omega) ho2 hB hw).mono ?_
          rintro e w2 ⟨v2, rfl, ho3, hB3, hw3⟩
          rw [hnx.out] at ho3
          go_wp2_with fail
          go_roundw
          case rel => exact ⟨k + 1, v2, by omega, by go_num, rfl, ho3, hB3, hw3⟩
          case measure => simp [intOf]; omega
        · have hp : (0 : Int) < (k : Int) := by omega
          rw [if_neg h0] at hnx
          clear h0
          go_wp2_with (at_builtin; refine wpList_append_lies _ rfl _ _ _ rfl w.heap.size 21 i0 _ 1 4 Try.underlying44 hi hz0 hz1 hz2 rfl (by omega) v t.length (t.map fun c => Value.int .i32 (c.toNat : Int)) rfl (ho2.alloc _) ⟨wr.heap.size, 0, none⟩ 1 1 [.int .i32 32] rfl rfl (World.news_of_block (cs := #[.int .i32 32]) (t := 21) (fr := (0, 0)) (heap_alloc_new wr _)) (by simp [Value.oneCell']) (by omega) (by unfold maxLen; omega) (by omega) (by simp; omega) (wr.heap.size + 1) (by simp) ?_; intro gg cc w1 hown1 hgrow hat hlt1)
          have hw2 := (hw.alloc hB (.cells #[.int .i32 32] 21)).grown hgrow (by simp; omega) hob.out
          have hB2 : w.heap.size ≤ w1.heap.size := Nat.le_trans hB (Nat.le_trans (by simp) hgrow.size)
          have ho3 : OwnR w.heap.size w1 (.slice (some ⟨gg, 0, none⟩) (t.length + 1) cc) (t ++ [32]) := by
            unfold OwnR
            rw [List.length_append, List.map_append, List.length_singleton]
            exact hown1
          have htl2 : (t ++ [32]).length ≤ 1000 := by simp; omega
          clear hown1 hgrow
          generalize t ++ [32] = t2 at ho3 hnx htl2
          go_wp2_with fail
          refine (iAppend m w.heap.size w _ _ t2 (by omega) htl2 ho3 hB2 hw2).mono ?_
          rintro e w2 ⟨v2, rfl, ho4, hB4, hw4⟩
          rw [hnx.out] at ho4
          go_wp2_with fail
          go_roundw
          case rel => exact ⟨k + 1, v2, by omega, by go_num, rfl, ho4, hB4, hw4⟩
          case measure => simp [intOf]; omega
      · have hkk : k = l.length := by omega
        subst hkk
        have hcv := conv_runes ho (lst_asc _ _)
        go_wp2
        go_ret
        exact ⟨rfl, hw⟩

end Go.Proofs.Ytodoamklikicpaa
