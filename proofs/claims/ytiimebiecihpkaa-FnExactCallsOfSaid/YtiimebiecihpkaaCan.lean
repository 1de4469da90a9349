/- Functions that are called for a function: the model. -/
import Derived.Test.YtiimebiecihpkaaCam
namespace Go.Proofs.Ytiimebiecihpkaa
open Go.RowKit
set_option linter.unusedVariables false

theorem mem_take_succ {l : List Int} {k : Nat} (hk : k < l.length) {n : Int} (h : ¬ n ∈ l.take k) (hx : l.getD k 0 ≠ n) : ¬ n ∈ l.take (k + 1) := by
  rw [← take_snoc hk, List.mem_append]
  rintro (h1 | h1)
  · exact h h1
  · rw [List.mem_singleton] at h1; exact hx h1.symm

set_option maxRecDepth 100000 in
set_option maxHeartbeats 1600000 in
theorem sHas (a : Option Addr) (ca : Nat) (l : List Int) (n : Int) (w : World) (ha : At w a l) (hl : l.length ≤ 1048576) :
    Calls Try.prog 179 #[.slice a l.length ca, .int .i64 n] w fun e w' => e = .returned (.bool (decide (n ∈ l))) ∧ w = w' := by
  go_enter Try.func179, Try.ntmps179
  go_wp2_with fail
  go_loop [5] (fun i => ∃ k : Nat, k ≤ l.length ∧ i = .int .i64 k ∧ Hid (¬ n ∈ l.take k)) (fun i => l.length - (intOf i).toNat)
  case atStart => exact ⟨0, Nat.zero_le _, rfl, (show ¬ n ∈ l.take 0 by simp)⟩
  case round =>
    obtain ⟨k, hk, rfl, HX⟩ := hrel
    by_cases hlt : k < l.length
    · obtain ⟨b1, o1, rfl, hbl1, hc1⟩ := (ha.resolve_left (by intro e; rw [e] at hlt; simp at hlt))
      have h1 := hc1 k hlt
      have hki : (k : Int) < (l.length : Int) := by omega
      by_cases hx : l.getD k 0 = n
      · have HF : Hid (decide (n ∈ l) = true) := decide_eq_true (by rw [← hx]; exact getD_mem hlt)
        rw [hx] at h1
        clear HX hc1 ha hx
        go_wp2_with fail
        go_ret
        exact ⟨ret_bool HF.out.symm, rfl⟩
      · have HX2 : Hid (¬ n ∈ l.take (k + 1)) := mem_take_succ hlt HX.out hx
        have hq : (l.getD k 0 == n) = false := ne_beq hx
        clear HX hc1 ha hx
        generalize l.getD k 0 = x at h1 hq
        go_wp2_with fail
        go_round
        case rel => exact ⟨k + 1, by omega, by go_num, HX2⟩
        case measure => simp [intOf]; omega
    · have hki : ¬ (k : Int) < (l.length : Int) := by omega
      have HF : Hid (decide (n ∈ l) = false) := decide_eq_false (by have := HX.out; rw [List.take_of_length_le (by omega)] at this; exact this)
      clear HX ha
      go_wp2_with fail
      go_ret
      exact ⟨ret_bool HF.out.symm, rfl⟩

/-- what is called for the functions ahead of t that are called -/
def allS (fs : List Fn) : Nat → List Int → List Int
  | 0, out => out
  | t + 1, out => allS fs t (if (t : Int) ∈ out then callsF (fs.getD t noFn).outs out else out)
def allOf (fs : List Fn) (f : Nat) : List Int := allS fs f (callsF (fs.getD f noFn).outs [])

theorem fnsSize_take {l : List Fn} {k : Nat} (h : k < l.length) : fnsSize (l.take (k + 1)) = fnsSize (l.take k) + (l.getD k noFn).size := by
  induction l generalizing k with
  | nil => simp at h
  | cons f r ih =>
    cases k with
    | zero => show f.size + 0 = 0 + f.size; omega
    | succ k => have := ih (k := k) (by simp at h; omega); show f.size + fnsSize (r.take (k + 1)) = f.size + fnsSize (r.take k) + (r.getD k noFn).size; omega
theorem fnsSize_take_le (l : List Fn) (k : Nat) : fnsSize (l.take k) ≤ fnsSize l := by
  induction l generalizing k with
  | nil => simp [fnsSize]
  | cons f r ih =>
    cases k with
    | zero => exact Nat.zero_le _
    | succ k => have := ih k; show f.size + fnsSize (r.take k) ≤ f.size + fnsSize r; omega

set_option maxRecDepth 100000 in
set_option maxHeartbeats 3200000 in
theorem sAll (fs : List Fn) (bp op : Nat) (ap : Option Addr) (capp : Nat) (f : Nat) (w : World)
    (hp : w.cell? ⟨bp, op, none⟩ = some (.slice ap fs.length capp)) (hP : Pat w 0 w.heap.size fs ap) (hf : f < fs.length) (hsz : pgSize fs ≤ 1048576) :
    Calls Try.prog 111 #[.pointer (some ⟨bp, op, none⟩), .int .i64 f] w (ListRes w (allOf fs f)) := by
  have hl : fs.length ≤ 1048576 := by unfold pgSize at hsz; omega
  have hbp := cell_lt hp
  have hpl : 1 ≤ fs.length := by omega
  have hsum : (fs.getD f noFn).outs.size + fnsSize (fs.take f) + 1 ≤ 1048576 := by
    have h1 := fnsSize_take hf
    have h2 := fnsSize_take_le fs (f + 1)
    unfold pgSize at hsz
    unfold Fn.size at h1
    omega
  have HT : Hid (allOf fs f = allS fs f (callsF (Fo.drop 0 (fs.getD f noFn).outs) [])) := by show _ = _; rw [Fo.drop_zero]; rfl
  generalize allOf fs f = T at HT
  have hfl : (f : Int) < (fs.length : Int) := by omega
  have hB0 := (Below.refl w.heap.size w).alloc (Nat.le_refl _) (.cells #[] 2)
  have hA0 : At (w.alloc (.cells #[] 2)) (some ⟨w.heap.size, 0, none⟩) [] := .inl rfl
  obtain ⟨bf, of, rfl, hbB, hall⟩ := (hP.resolve_left (by intro e; rw [e] at hf; simp at hf))
  have HA := Lib.hid hall
  obtain ⟨hr, af, cf, f0, f1, f2, hF⟩ := hall f hf
  have hrn : Rng ([] : List Int) := fun n hn => by simp at hn
  have hos : (fs.getD f noFn).outs.size ≤ 1048576 := by omega
  have hol : (fs.getD f noFn).outs.len ≤ 1048576 := by have := Fo.len_le (fs.getD f noFn).outs; omega
  have hsum0 : ([] : List Int).length + (Fo.drop 0 (fs.getD f noFn).outs).size + fnsSize (fs.take f) + 1 ≤ 1048576 := by rw [Fo.drop_zero]; show 0 + _ + _ + 1 ≤ _; omega
  clear hall hr f0 f1 hP
  generalize (fs.getD f noFn).outs = ou at HT hF f2 hsum hos hol hsum0
  go_enter Try.func111, Try.ntmps111
  go_wp2_with fail
  go_loopw [5, 6] (fun v i wr => ∃ (t : Nat) (q : List Int) (aq : Option Addr) (cq : Nat), t ≤ ou.len ∧ i = .int .i64 t ∧ v = .slice aq q.length cq ∧ Hid (T = allS fs f (callsF (Fo.drop t ou) q)) ∧ At wr aq q ∧ Rng q ∧ q.length + (Fo.drop t ou).size + fnsSize (fs.take f) + 1 ≤ 1048576 ∧ Below w.heap.size w wr) (fun _ i _ => ou.len - (intOf i).toNat)
  case atStart => exact ⟨0, [], _, _, Nat.zero_le _, rfl, rfl, HT, hA0, hrn, hsum0, hB0⟩
  case round =>
    obtain ⟨t, q, aq, cq, ht, rfl, rfl, HX, hAq, hrq, hqb, hw⟩ := hrel
    have gp := (hw.cell (p := ⟨bp, op, none⟩) hbp).trans hp
    have g2 := (hw.cell (p := ⟨bf, of + f * 3 + 2, none⟩) hbB.2).trans f2
    clear HT hB0 hA0 hrn hsum0
    by_cases hlt : t < ou.len
    · have hti : (t : Int) < (ou.len : Int) := by omega
      obtain ⟨b1, o1, rfl, _⟩ := hF.blk (by omega)
      obtain ⟨k1, n1, p1, c1', kk, a2, cap2, hdr, hr1, hkl, d0, d1, d2, d3, d4, hk'⟩ := (hF.below hw).node hlt
      have hsc := Fo.size_cons hdr
      have hel := callsE_len k1 n1 kk q
      have hHC := Lib.hid (sCalls_all (kk.size + 1) kk (by omega) b1 (o1 + t * 5) k1 n1 p1 c1' a2 cap2 aq cq q wr ⟨d0, d1, d2, d3, d4⟩ hr1 (hk'.mono (Nat.le_refl _) hw.size) hAq hrq (by omega))
      have her := callsE_rng (k := k1) hr1.2.1 hk'.foR hrq
      have HX2 : Hid (T = allS fs f (callsF (Fo.drop (t + 1) ou) (callsE k1 n1 kk q))) := by show _ = _; rw [HX.out, callsF_cons hdr]
      have hqb2 : (callsE k1 n1 kk q).length + (Fo.drop (t + 1) ou).size + fnsSize (fs.take f) + 1 ≤ 1048576 := by omega
      clear hdr hsc hk' hF hkl HX hAq hrq hqb hel HA d0 d1 d2 d3 d4 hsum
      generalize callsE k1 n1 kk q = q2 at hHC her HX2 hqb2
      go_wp2_with fail
      refine (hHC.out).mono ?_; rintro e w1 ⟨a3, c3, rfl, hA3, hb3⟩
      have hw3 := hw.trans (hb3.mono hw.size)
      clear hHC
      go_wp2_with fail
      go_roundw
      case rel => exact ⟨t + 1, q2, a3, c3, by omega, by go_num, rfl, HX2, hA3, her, hqb2, hw3⟩
      case measure => simp [intOf]; omega
    · have hti : ¬ (t : Int) < (ou.len : Int) := by omega
      have HX0 : Hid (T = allS fs f q) := by show _ = _; rw [HX.out, Fo.drop_end (by omega)]; rfl
      have hqf : q.length + fnsSize (fs.take f) + 1 ≤ 1048576 := by omega
      have hff : f ≤ fs.length := by omega
      clear HX hqb hF hsum
      go_wp2_with fail
      go_loopw [5, 7] (fun v i wr => ∃ (t : Nat) (q : List Int) (aq : Option Addr) (cq : Nat), t ≤ fs.length ∧ i = .int .i64 ((t : Int) - 1) ∧ v = .slice aq q.length cq ∧ Hid (T = allS fs t q) ∧ At wr aq q ∧ Rng q ∧ q.length + fnsSize (fs.take t) + 1 ≤ 1048576 ∧ Below w.heap.size w wr) (fun _ i _ => (intOf i + 1).toNat)
      case atStart => exact ⟨f, q, aq, cq, hff, rfl, rfl, HX0, hAq, hrq, hqf, hw⟩
      case round =>
        obtain ⟨t2, q2, aq2, cq2, ht2, rfl, rfl, HX2, hAq2, hrq2, hqb2, hw2⟩ := hrel
        clear HX0 hAq hrq hqf hw gp g2
        have gp := (hw2.cell (p := ⟨bp, op, none⟩) hbp).trans hp
        cases t2 with
        | zero =>
          have hd : decide (0 ≤ (((0 : Nat) : Int) - 1)) = false := decide_eq_false (by omega)
          have HX3 : Hid (T = q2) := HX2.out
          clear HX2
          go_wp2_with fail
          go_ret
          exact ⟨aq2, cq2, ret_slice (by rw [HX3.out]), by rw [HX3.out]; exact hAq2, hw2⟩
        | succ s =>
          have es : (((s + 1 : Nat) : Int) - 1) = (s : Int) := by omega
          rw [es]
          clear es
          have hsl : s < fs.length := by omega
          have hsi : (s : Int) < (fs.length : Int) := by omega
          have hs0 : (0 : Int) ≤ (s : Int) := by omega
          have hft := fnsSize_take hsl
          have hfd := fnsSize_le hsl
          obtain ⟨hrs, a0s, cs, s0, s1, s2, hFs⟩ := HA.out s hsl
          have HH := fun W (hW : At W aq2 q2) => Lib.hid (sHas aq2 cq2 q2 (s : Int) W hW (by omega))
          have HT2 : Hid (T = allS fs s (if (s : Int) ∈ q2 then callsF (Fo.drop 0 (fs.getD s noFn).outs) q2 else q2)) := by show _ = _; rw [HX2.out, Fo.drop_zero]; rfl
          have hqs : q2.length + (Fo.drop 0 (fs.getD s noFn).outs).size + fnsSize (fs.take s) + 1 ≤ 1048576 := by rw [Fo.drop_zero]; unfold Fn.size at hft; omega
          have hqn : q2.length + fnsSize (fs.take s) + 1 ≤ 1048576 := by omega
          have hol2 : (fs.getD s noFn).outs.len ≤ 1048576 := by have := Fo.len_le (fs.getD s noFn).outs; unfold pgSize at hsz; unfold Fn.size at hfd; omega
          clear hft hfd hrs s0 s1 HX2 HA
          generalize (fs.getD s noFn).outs = os at s2 hFs HT2 hqs hol2
          by_cases hmem : (s : Int) ∈ q2
          · rw [if_pos hmem] at HT2
            rw [decide_eq_true hmem] at HH
            clear hmem hqn
            go_wp2_with fail
            refine (HH _ hAq2).out.mono ?_; rintro e w1 ⟨rfl, rfl⟩
            clear HH
            go_wp2_with fail
            go_loopw [5, 8] (fun v i wr => ∃ (t : Nat) (q : List Int) (aq : Option Addr) (cq : Nat), t ≤ os.len ∧ i = .int .i64 t ∧ v = .slice aq q.length cq ∧ Hid (T = allS fs s (callsF (Fo.drop t os) q)) ∧ At wr aq q ∧ Rng q ∧ q.length + (Fo.drop t os).size + fnsSize (fs.take s) + 1 ≤ 1048576 ∧ Below w.heap.size w wr) (fun _ i _ => os.len - (intOf i).toNat)
            case atStart => exact ⟨0, q2, aq2, cq2, Nat.zero_le _, rfl, rfl, HT2, hAq2, hrq2, hqs, hw2⟩
            case round =>
              obtain ⟨t, q, aq, cq, ht, rfl, rfl, HX, hAq, hrq, hqb, hw⟩ := hrel
              clear HT2 hAq2 hrq2 hqs hqb2 hw2 gp
              have gp := (hw.cell (p := ⟨bp, op, none⟩) hbp).trans hp
              have g2 := (hw.cell (p := ⟨bf, of + s * 3 + 2, none⟩) hbB.2).trans s2
              by_cases hlt : t < os.len
              · have hti : (t : Int) < (os.len : Int) := by omega
                obtain ⟨b1, o1, rfl, _⟩ := hFs.blk (by omega)
                obtain ⟨k1, n1, p1, c1', kk, a2, cap2, hdr, hr1, hkl, d0, d1, d2, d3, d4, hk'⟩ := (hFs.below hw).node hlt
                have hsc := Fo.size_cons hdr
                have hel := callsE_len k1 n1 kk q
                have hHC := Lib.hid (sCalls_all (kk.size + 1) kk (by omega) b1 (o1 + t * 5) k1 n1 p1 c1' a2 cap2 aq cq q wr ⟨d0, d1, d2, d3, d4⟩ hr1 (hk'.mono (Nat.le_refl _) hw.size) hAq hrq (by omega))
                have her := callsE_rng (k := k1) hr1.2.1 hk'.foR hrq
                have HX2 : Hid (T = allS fs s (callsF (Fo.drop (t + 1) os) (callsE k1 n1 kk q))) := by show _ = _; rw [HX.out, callsF_cons hdr]
                have hqb3 : (callsE k1 n1 kk q).length + (Fo.drop (t + 1) os).size + fnsSize (fs.take s) + 1 ≤ 1048576 := by omega
                clear hdr hsc hk' hFs hkl HX hAq hrq hqb hel d0 d1 d2 d3 d4
                generalize callsE k1 n1 kk q = q3 at hHC her HX2 hqb3
                go_wp2_with fail
                refine (hHC.out).mono ?_; rintro e w1 ⟨a3, c3, rfl, hA3, hb3⟩
                have hw3 := hw.trans (hb3.mono hw.size)
                clear hHC
                go_wp2_with fail
                go_roundw
                case rel => exact ⟨t + 1, q3, a3, c3, by omega, by go_num, rfl, HX2, hA3, her, hqb3, hw3⟩
                case measure => simp [intOf]; omega
              · have hti : ¬ (t : Int) < (os.len : Int) := by omega
                have HX0 : Hid (T = allS fs s q) := by show _ = _; rw [HX.out, Fo.drop_end (by omega)]; rfl
                have hqf : q.length + fnsSize (fs.take s) + 1 ≤ 1048576 := by omega
                clear HX hqb hFs
                go_wp2_with fail
                go_roundw
                case rel => exact ⟨s, q, aq, cq, by omega, rfl, rfl, HX0, hAq, hrq, hqf, hw⟩
                case measure => simp [intOf]
          · rw [if_neg hmem] at HT2
            rw [decide_eq_false hmem] at HH
            clear hmem hqs hFs
            go_wp2_with fail
            refine (HH _ hAq2).out.mono ?_; rintro e w1 ⟨rfl, rfl⟩
            clear HH
            go_wp2_with fail
            go_roundw
            case rel => exact ⟨s, q2, aq2, cq2, by omega, rfl, rfl, HT2, hAq2, hrq2, hqn, hw2⟩
            case measure => simp [intOf]

end Go.Proofs.Ytiimebiecihpkaa
