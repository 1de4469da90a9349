/- Functions that are called: the model, whole. -/
import Derived.Test.YtiimebiecihpkaaCal
namespace Go.Proofs.Ytiimebiecihpkaa
open Go.RowKit
set_option linter.unusedVariables false

/-- the calls of expressions are put to their places -/
def callsF : Fo → List Int → List Int
  | .nil, out => out
  | .cons k n _ _ ks r, out => callsF r (callsF ks (if k = 10 ∨ k = 11 then putL out n else out))
def callsE (k n : Int) (ks : Fo) (out : List Int) : List Int := callsF ks (if k = 10 ∨ k = 11 then putL out n else out)
theorem callsF_cons {f : Fo} {i : Nat} {k n p c : Int} {ks : Fo} (h : Fo.drop i f = .cons k n p c ks (Fo.drop (i + 1) f)) (out : List Int) : callsF (Fo.drop i f) out = callsF (Fo.drop (i + 1) f) (callsE k n ks out) := by
  rw [h]; rfl
theorem callsF_len (f : Fo) : ∀ out : List Int, (callsF f out).length ≤ out.length + f.size := by
  induction f with
  | nil => intro out; exact Nat.le_refl _
  | cons k n p c ks r ihk ihr =>
    intro out
    have e : (Fo.cons k n p c ks r).size = ks.size + r.size + 1 := rfl
    show (callsF r (callsF ks (if k = 10 ∨ k = 11 then putL out n else out))).length ≤ _
    have h1 := ihr (callsF ks (if k = 10 ∨ k = 11 then putL out n else out))
    have h2 := ihk (if k = 10 ∨ k = 11 then putL out n else out)
    have h3 := putL_len out n
    by_cases hk : k = 10 ∨ k = 11
    · rw [if_pos hk] at *; omega
    · rw [if_neg hk] at *; omega
theorem callsE_len (k n : Int) (ks : Fo) (out : List Int) : (callsE k n ks out).length ≤ out.length + ks.size + 1 := by
  have h2 := callsF_len ks (if k = 10 ∨ k = 11 then putL out n else out)
  have h3 := putL_len out n
  unfold callsE
  by_cases hk : k = 10 ∨ k = 11
  · rw [if_pos hk] at *; omega
  · rw [if_neg hk] at *; omega
/-- all numbers fit -/
def FoR : Fo → Prop
  | .nil => True
  | .cons _ n _ _ ks r => (-9223372036854775808 ≤ n ∧ n ≤ 9223372036854775807) ∧ FoR ks ∧ FoR r
theorem Fat.foR {w : World} {L B : Nat} {f : Fo} : ∀ {a : Option Addr}, Fat w L B f a → FoR f := by
  induction f with
  | nil => intro a _; trivial
  | cons k n p c ks r ihk ihr =>
    intro a h
    obtain ⟨b, off, a', cap, e, hB, hr, hl, h0, h1, h2, h3, h4, hk, hr'⟩ := h
    exact ⟨hr.2.1, ihk hk, ihr hr'⟩
theorem callsF_rng {f : Fo} : ∀ {out : List Int}, FoR f → Rng out → Rng (callsF f out) := by
  induction f with
  | nil => intro out _ h; exact h
  | cons k n p c ks r ihk ihr =>
    intro out hf h
    refine ihr hf.2.2 (ihk hf.2.1 ?_)
    split
    · exact putL_rng h hf.1
    · exact h
theorem callsE_rng {k n : Int} {ks : Fo} {out : List Int} (hn : -9223372036854775808 ≤ n ∧ n ≤ 9223372036854775807) (hk : FoR ks) (h : Rng out) : Rng (callsE k n ks out) := by
  refine callsF_rng hk ?_
  split
  · exact putL_rng h hn
  · exact h

/-- The call answers a slice that reads as a list. -/
def ListRes (w : World) (l : List Int) (e : Ending) (w' : World) : Prop := ∃ a cap, e = .returned (.slice a l.length cap) ∧ At w' a l ∧ Below w.heap.size w w'

set_option maxRecDepth 100000 in
set_option maxHeartbeats 3200000 in
theorem sCalls_all : ∀ (m : Nat) (ks : Fo), ks.size < m → ∀ (b off : Nat) (k n p c : Int) (a : Option Addr) (cap : Nat) (ao : Option Addr) (co : Nat) (l : List Int) (w : World),
    NodeAt w b off k n p c ks.len a cap → R4 k n p c → Fat w 0 w.heap.size ks a → At w ao l → Rng l → l.length + ks.size + 1 ≤ 1048576 →
    Calls Try.prog 178 #[.pointer (some ⟨b, off, none⟩), .slice ao l.length co] w (ListRes w (callsE k n ks l)) := by
  intro m
  induction m with
  | zero => intro f hf; omega
  | succ m ih =>
    intro ks hks b off k n p c a cap ao co l w hN hR hF hA hr hl
    have hlen2 : ks.len ≤ 1048576 := by have := Fo.len_le ks; omega
    have hfr := hF.foR
    have hbw := cell_lt hN.c0
    obtain ⟨c0, c1, c2, c3, c4⟩ := hN
    have hll : l.length ≤ 1048576 := by omega
    have HT : Hid (callsE k n ks l = callsF ks (if k = 10 ∨ k = 11 then putL l n else l)) := rfl
    have IH := Lib.hid ih
    clear ih
    have fin : ∀ (q : List Int) (aq : Option Addr) (cq : Nat) (w1 : World), At w1 aq q → Rng q → q.length + ks.size ≤ 1048576 → Below w.heap.size w w1 → Hid (callsE k n ks l = callsF (Fo.drop 0 ks) q) → True := fun _ _ _ _ _ _ _ _ _ => trivial
    clear fin
    by_cases hk : k = 10 ∨ k = 11
    · rw [if_pos hk] at HT
      have HP := Lib.hid (sPut ao co l n w hA hr hll)
      have hql := putL_len l n
      have hqr := putL_rng hr hR.2.1
      generalize putL l n = q0 at HT HP hql hqr
      generalize callsE k n ks l = T at HT
      have H0 : Hid (T = callsF (Fo.drop 0 ks) q0) := by show _ = _; rw [HT.out, Fo.drop_zero]
      have hlb : q0.length + (Fo.drop 0 ks).size ≤ 1048576 := by rw [Fo.drop_zero]; omega
      clear HT
      rcases hk with rfl | rfl
      iterate 2
        · go_enter Try.func178, Try.ntmps178
          go_wp2_with fail
          refine (HP.out).mono ?_; rintro e w1 ⟨gq, cq0, rfl, oq, hb0⟩
          have x4 := (hb0.cell (p := ⟨b, off + 4, none⟩) hbw).trans c4
          clear HP
          go_wp2_with fail
          go_loopw [1, 5] (fun v i wr => ∃ (t : Nat) (q : List Int) (aq : Option Addr) (cq : Nat), t ≤ ks.len ∧ i = .int .i64 t ∧ v = .slice aq q.length cq ∧ Hid (T = callsF (Fo.drop t ks) q) ∧ At wr aq q ∧ Rng q ∧ q.length + (Fo.drop t ks).size ≤ 1048576 ∧ Below w.heap.size w wr) (fun _ i _ => ks.len - (intOf i).toNat)
          case atStart => exact ⟨0, q0, _, _, Nat.zero_le _, rfl, rfl, H0, oq.at, hqr, hlb, hb0⟩
          case round =>
            obtain ⟨t, q, aq, cq, ht, rfl, rfl, HX, hAq, hrq, hqb, hw⟩ := hrel
            have g4 := (hw.cell (p := ⟨b, off + 4, none⟩) hbw).trans c4
            clear H0 hb0 hlb hA hr c0 c1 c2 c3 c4 oq x4
            by_cases hlt : t < ks.len
            · have hti : (t : Int) < (ks.len : Int) := by omega
              obtain ⟨b1, o1, rfl, hbB⟩ := hF.blk (by omega)
              obtain ⟨k1, n1, p1, c1', kk, a2, cap2, hdr, hr1, hkl, d0, d1, d2, d3, d4, hk'⟩ := (hF.below hw).node hlt
              have hlt' := Fo.kid_lt hdr
              have hsc := Fo.size_cons hdr
              have hel := callsE_len k1 n1 kk q
              have hHC := Lib.hid (IH.out kk (by omega) b1 (o1 + t * 5) k1 n1 p1 c1' a2 cap2 aq cq q wr ⟨d0, d1, d2, d3, d4⟩ hr1 (hk'.mono (Nat.le_refl _) hw.size) hAq hrq (by omega))
              have her := callsE_rng (k := k1) hr1.2.1 hk'.foR hrq
              have HX2 : Hid (T = callsF (Fo.drop (t + 1) ks) (callsE k1 n1 kk q)) := by show _ = _; rw [HX.out, callsF_cons hdr]
              have hqb2 : (callsE k1 n1 kk q).length + (Fo.drop (t + 1) ks).size ≤ 1048576 := by omega
              clear hdr hsc hlt' hk' hF hkl HX hAq hrq hqb hel IH d0 d1 d2 d3 d4
              generalize callsE k1 n1 kk q = q2 at hHC her HX2 hqb2
              go_wp2_with fail
              refine (hHC.out).mono ?_; rintro e w1 ⟨a3, c3, rfl, hA3, hb3⟩
              have hw3 := hw.trans (hb3.mono hw.size)
              clear hHC
              go_wp2_with fail
              go_roundw
              case rel => exact ⟨t + 1, q2, a3, c3, by omega, by go_num, rfl, HX2, hA3, her, hqb2, hw3⟩
              case measure => simp [intOf]; omega
            · have hti : ¬ (t : Int) < (ks.len : Int) := by omega
              have HX2 : Hid (T = q) := by show _ = _; rw [HX.out, Fo.drop_end (by omega)]; rfl
              clear HX
              go_wp2_with fail
              go_ret
              exact ⟨aq, cq, ret_slice (by rw [HX2.out]), by rw [HX2.out]; exact hAq, hw⟩
    · rw [if_neg hk] at HT
      have e10 : (k == 10) = false := ne_beq (by omega)
      have e11 : (k == 11) = false := ne_beq (by omega)
      have H0 : Hid (callsE k n ks l = callsF (Fo.drop 0 ks) l) := by show _ = _; rw [HT.out, Fo.drop_zero]
      have hb0 : Below w.heap.size w w := Below.refl _ _
      have hlb : l.length + (Fo.drop 0 ks).size ≤ 1048576 := by rw [Fo.drop_zero]; omega
      clear HT hk
      go_enter Try.func178, Try.ntmps178
      go_wp2_with fail
      go_loopw [1, 5] (fun v i wr => ∃ (t : Nat) (q : List Int) (aq : Option Addr) (cq : Nat), t ≤ ks.len ∧ i = .int .i64 t ∧ v = .slice aq q.length cq ∧ Hid (callsE k n ks l = callsF (Fo.drop t ks) q) ∧ At wr aq q ∧ Rng q ∧ q.length + (Fo.drop t ks).size ≤ 1048576 ∧ Below w.heap.size w wr) (fun _ i _ => ks.len - (intOf i).toNat)
      case atStart => exact ⟨0, l, ao, co, Nat.zero_le _, rfl, rfl, H0, hA, hr, hlb, hb0⟩
      case round =>
        obtain ⟨t, q, aq, cq, ht, rfl, rfl, HX, hAq, hrq, hqb, hw⟩ := hrel
        have g4 := (hw.cell (p := ⟨b, off + 4, none⟩) hbw).trans c4
        clear H0 hb0 hlb hA hr c0 c1 c2 c3 c4
        by_cases hlt : t < ks.len
        · have hti : (t : Int) < (ks.len : Int) := by omega
          obtain ⟨b1, o1, rfl, hbB⟩ := hF.blk (by omega)
          obtain ⟨k1, n1, p1, c1', kk, a2, cap2, hdr, hr1, hkl, d0, d1, d2, d3, d4, hk'⟩ := (hF.below hw).node hlt
          have hlt' := Fo.kid_lt hdr
          have hsc := Fo.size_cons hdr
          have hel := callsE_len k1 n1 kk q
          have hHC := Lib.hid (IH.out kk (by omega) b1 (o1 + t * 5) k1 n1 p1 c1' a2 cap2 aq cq q wr ⟨d0, d1, d2, d3, d4⟩ hr1 (hk'.mono (Nat.le_refl _) hw.size) hAq hrq (by omega))
          have her := callsE_rng (k := k1) hr1.2.1 hk'.foR hrq
          have HX2 : Hid (callsE k n ks l = callsF (Fo.drop (t + 1) ks) (callsE k1 n1 kk q)) := by show _ = _; rw [HX.out, callsF_cons hdr]
          have hqb2 : (callsE k1 n1 kk q).length + (Fo.drop (t + 1) ks).size ≤ 1048576 := by omega
          clear hdr hsc hlt' hk' hF hkl HX hAq hrq hqb hel IH d0 d1 d2 d3 d4
          generalize callsE k1 n1 kk q = q2 at hHC her HX2 hqb2
          go_wp2_with fail
          refine (hHC.out).mono ?_; rintro e w1 ⟨a3, c3, rfl, hA3, hb3⟩
          have hw3 := hw.trans (hb3.mono hw.size)
          clear hHC
          go_wp2_with fail
          go_roundw
          case rel => exact ⟨t + 1, q2, a3, c3, by omega, by go_num, rfl, HX2, hA3, her, hqb2, hw3⟩
          case measure => simp [intOf]; omega
        · have hti : ¬ (t : Int) < (ks.len : Int) := by omega
          have HX2 : Hid (callsE k n ks l = q) := by show _ = _; rw [HX.out, Fo.drop_end (by omega)]; rfl
          clear HX
          go_wp2_with fail
          go_ret
          exact ⟨aq, cq, ret_slice (by rw [HX2.out]), by rw [HX2.out]; exact hAq, hw⟩

end Go.Proofs.Ytiimebiecihpkaa
