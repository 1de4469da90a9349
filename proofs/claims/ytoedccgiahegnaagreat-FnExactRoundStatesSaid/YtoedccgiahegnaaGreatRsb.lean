/- Chains of rounds by the program: the states, RoundStates. -/
import Derived.Deep.AppendLies
import Derived.Test.YtoedccgiahegnaaGreatRsa
import Derived.Test.YtoedccgiahegnaaGreatAre
namespace Go.Proofs.YtoedccgiahegnaaGreat
open Go Go.RowKit
set_option linter.unusedVariables false

/-- the state behind so many rounds, and the first code that is not 0 -/
def stE (fs : List Fn) (j : Nat) (args : List Int) : Nat → Rl Int
  | 0 => ⟨args, 0, 0⟩
  | i + 1 => if (stE fs j args i).c = 0 then ⟨(vaL fs j (stE fs j args i).l).l, 0, (vaL fs j (stE fs j args i).l).c⟩ else stE fs j args i
theorem stE_go {fs : List Fn} {j : Nat} {args : List Int} {i : Nat} (h : (stE fs j args i).c = 0) : stE fs j args (i + 1) = ⟨(vaL fs j (stE fs j args i).l).l, 0, (vaL fs j (stE fs j args i).l).c⟩ := by rw [stE, if_pos h]
theorem stE_bad {fs : List Fn} {j : Nat} {args : List Int} {i : Nat} (h : ¬ (stE fs j args i).c = 0) : ∀ k, stE fs j args (i + k) = stE fs j args i
  | 0 => rfl
  | k + 1 => by
    have ih := stE_bad h k
    rw [← Nat.add_assoc, stE, ih, if_neg h]
/-- the first states -/
def stR (S : Nat → Rl Int) (n : Nat) : List (List Int) := (List.range n).map fun k => (S k).l
theorem stR_len (S : Nat → Rl Int) (n : Nat) : (stR S n).length = n := by simp [stR]
theorem stR_at {S : Nat → Rl Int} {n q : Nat} (h : q < n) : (stR S n).getD q [] = (S q).l := by
  unfold stR
  rw [List.getD_eq_getElem?_getD, List.getElem?_map, List.getElem?_range h]; rfl
/-- all states, where no code stops them -/
def stA (fs : List Fn) (j : Nat) (args : List Int) (n : Nat) : List (List Int) := if (stE fs j args n).c = 0 then stR (stE fs j args) (n + 1) else []
/-- rows of one's own: one more -/
theorem Mq.pushR {W W1 W2 : World} {L g kg gg cg i r c : Nat} {x : List Int} {ls ls' : List (List Int)} {A : Nat → Option Addr} {K : Nat → Nat} {vs : List Value} (h : Mq W L g kg i ls A K) (hb : Below W.heap.size W W1) (hu : vs.length = i) (hv : ∀ q, q < i → vs[q]? = some (.slice (A q) (ls.getD q []).length (K q)))
    (hr : Own L W1 r c x) (hrg : r ≠ g) (hrn : ∀ q, q < i → ∀ p : Addr, A q = some p → p.block ≠ r) (hg : W1.grownBy W2 (some g)) (hgg : gg = g ∨ W1.heap.size ≤ gg) (ho : W2.ownsRow L 25 1 (.slice (some ⟨gg, 0, none⟩) (i + 1) cg) (i + 1) (vs ++ [.slice (some ⟨r, 0, none⟩) x.length c]))
    (hl : ∀ q, q < i + 1 → ls'.getD q [] = if q = i then x else ls.getD q []) : Mq W2 L gg cg (i + 1) ls' (fun q => if q = i then some ⟨r, 0, none⟩ else A q) (fun q => if q = i then c else K q) := by
  have kg : Kp (fun b => b = g) W1 W2 := Kp.grown hg (fun _ e => by cases e; rfl)
  have kp : Kp (fun b => b = g) W W2 := (Kp.of_below hb).trans kg
  have hgb := h.base
  have hrb := hr.base
  have hs := hb.size
  refine ⟨⟨_, ho, fun q hq => ?_⟩, fun q hq => ?_, fun q hq p hp => ?_, fun q s hq hs' p t hp ht e => ?_⟩
  · rw [hl q hq]
    by_cases e : q = i
    · subst e; rw [List.getElem?_append_right (by omega), hu]; simp
    · rw [List.getElem?_append_left (by omega), hv q (by omega)]; simp [e]
  · rw [hl q hq]
    by_cases e : q = i
    · subst e; simp only [if_true]; exact hr.owr.keep kg (fun p hp => by cases hp; exact hrg)
    · simp only [e, if_false]; exact (h.row q (by omega)).keep kp (fun p hp => h.ne q (by omega) p hp)
  · by_cases e : q = i
    · simp only [e, if_true] at hp; cases hp; show r ≠ gg; omega
    · simp only [e, if_false] at hp
      have h1 := h.ne q (by omega) p hp
      have h2 := (h.row q (by omega)).blk p hp
      omega
  · by_cases e1 : q = i
    · by_cases e2 : s = i
      · omega
      · simp only [e1, if_true] at hp
        simp only [e2, if_false] at ht
        cases hp
        exact absurd e.symm (hrn s (by omega) t ht)
    · by_cases e2 : s = i
      · simp only [e1, if_false] at hp
        simp only [e2, if_true] at ht
        cases ht
        exact absurd e (hrn q (by omega) p hp)
      · simp only [e1, if_false] at hp
        simp only [e2, if_false] at ht
        exact h.inj q s (by omega) (by omega) p t hp ht e
/-- a list of one row, just made -/
theorem Mq.one {W : World} {L r c : Nat} {x : List Int} {ls : List (List Int)} (hr : Own L W r c x) (hl : ls.getD 0 [] = x) : Mq (W.alloc (.cells #[.slice (some ⟨r, 0, none⟩) x.length c] 25)) L W.heap.size 1 1 ls (fun _ => some ⟨r, 0, none⟩) (fun _ => c) := by
  have hb := hr.base
  have b1 : Below W.heap.size W (W.alloc (.cells #[.slice (some ⟨r, 0, none⟩) x.length c] 25)) := (Below.refl _ _).alloc (Nat.le_refl _) _
  refine ⟨⟨[.slice (some ⟨r, 0, none⟩) x.length c], ⟨by simp, .inr ⟨W.heap.size, 1, #[.slice (some ⟨r, 0, none⟩) x.length c], rfl, by omega, heap_alloc_new W _, by omega, by unfold maxLen; omega, by simp, by simp⟩⟩, fun i hi => ?_⟩, fun i hi => ?_, fun i hi p hp => ?_, fun i j hi hj p q _ _ _ => by omega⟩
  · obtain rfl : i = 0 := by omega
    rw [hl]; rfl
  · obtain rfl : i = 0 := by omega
    rw [hl]
    exact hr.owr.keep (S := fun _ => False) (Kp.of_below b1) (fun _ _ h => h)
  · cases hp
    show r ≠ W.heap.size
    omega

set_option maxRecDepth 100000 in
set_option maxHeartbeats 12800000 in
theorem pStates (fs : List Fn) (ap : Option Addr) (capp : Nat) (j : Nat) (af : Option Addr) (cf : Nat) (aa : Option Addr) (ca : Nat) (args : List Int) (w : World)
    (hpb : progB fs = true) (hj : j < fs.length) (hfl : fs.length ≤ 1048576) (hP : Pat w 0 w.heap.size fs ap) (hFo : Fat w 0 w.heap.size (fs.getD j noFn).outs af) (hA : At w aa args) (hN : Nums args) (hal : (args.length : Int) = (fs.getD j noFn).params) (hca : args.length ≤ ca) (hca2 : ca ≤ 9223372036854775807) (hpa : (fs.getD j noFn).outs.len = args.length) (hl1 : 1 ≤ args.length) (hab : args.length ≤ 1048576) (n : Nat) (hn : n ≤ 40) :
    Calls Tryz.prog 63 #[.agg #[ofN, .slice ap fs.length capp, .string (fs.getD j noFn).name, .int .i64 (fs.getD j noFn).params, .slice af (fs.getD j noFn).outs.len cf, .slice aa args.length ca], .int .i64 n] w (JaRes w (stA fs j args n) (stE fs j args n).c) := by
  obtain ⟨i1, hj1, hy0, hy1, hy2⟩ := info_parts infoRowE
  obtain ⟨w1, hw1⟩ : ∃ w1, w.alloc (.cells #[ofN, .slice ap fs.length capp, .string (fs.getD j noFn).name, .int .i64 (fs.getD j noFn).params, .slice af (fs.getD j noFn).outs.len cf, .slice aa args.length ca] 67) = w1 := ⟨_, rfl⟩
  have b1 : Below w.heap.size w w1 := by rw [← hw1]; exact (Below.refl _ _).alloc (Nat.le_refl _) _
  have z1 : w1.heap.size = w.heap.size + 1 := by rw [← hw1]; simp
  have HP1 : Hid (PBox w1 w.heap.size ofN (.slice ap fs.length capp) (.string (fs.getD j noFn).name) (.int .i64 (fs.getD j noFn).params) (.slice af (fs.getD j noFn).outs.len cf) (.slice aa args.length ca)) := by
    show PBox _ _ _ _ _ _ _ _
    rw [← hw1]
    exact ⟨by simp [go_sem], by simp [go_sem], by simp [go_sem], by simp [go_sem], by simp [go_sem], by simp [go_sem], fun o => by simp [go_sem]⟩
  have HCL := Lib.hid (iClone aa ca args w1 (hA.below b1 (Nat.le_refl _)) hl1 hab)
  have HAF := fun (W : World) (hW : Below w.heap.size w W) (i : Nat) (ga : Option Addr) (cga : Nat) (hA : At W ga (stE fs j args i).l) (hN : Nums (stE fs j args i).l) (hl : (stE fs j args i).l.length = args.length) (h1 : args.length ≤ cga) (h2 : cga ≤ 9223372036854775807) => Lib.hid (show Calls Tryz.prog 88 #[.agg #[ofN, .slice ap fs.length capp, .string (fs.getD j noFn).name, .int .i64 (fs.getD j noFn).params, .slice af (fs.getD j noFn).outs.len cf, .slice ga args.length cga], .int .i64 1] W (AfRes fs ap capp j af cf (stE fs j args i).l W) from by
    rw [← hl]
    exact pAfter fs ap capp j af cf ga cga (stE fs j args i).l W hpb hj hfl ((hP.below hW).mono (Nat.le_refl _) hW.size) ((hFo.agree (fun i _ h2 => hW.block i h2)).mono (Nat.le_refl _) hW.size) hA hN (by rw [hl]; exact hal) (by rw [hl]; exact h1) h2)
  have HGO : Hid (∀ i, (stE fs j args i).c = 0 → (stE fs j args (i + 1)).c = (vaL fs j (stE fs j args i).l).c ∧ (stE fs j args (i + 1)).l = (vaL fs j (stE fs j args i).l).l) := fun i h => by rw [stE_go h]; exact ⟨rfl, rfl⟩
  have HBD : Hid (∀ i k, ¬ (stE fs j args i).c = 0 → stE fs j args (i + k) = stE fs j args i) := fun i k h => stE_bad h k
  have HLE : Hid (∀ l, (vaL fs j l).c = 0 → (vaL fs j l).l.length = args.length) := fun l h => by rw [← hpa]; exact lisE_len _ h
  have HJA : Hid (stA fs j args n = if (stE fs j args n).c = 0 then stR (stE fs j args) (n + 1) else []) := rfl
  generalize stA fs j args n = JA at *
  have HS0 : Hid ((stE fs j args 0).c = 0 ∧ (stE fs j args 0).l = args) := ⟨rfl, rfl⟩
  unfold AfRes at HAF
  have hA1 := hA.below b1 (Nat.le_refl _)
  have HBA : Hid (∀ b, blk aa args = some b → b < w.heap.size) := fun b hb => by
    rcases hA with e | ⟨b0, o0, rfl, h, _⟩
    · rw [e] at hb; simp [blk] at hb
    · unfold blk at hb
      split at hb
      · cases hb
      · have : b0 = b := by simpa using hb
        omega
  clear hpb hj hP hFo hA
  generalize stE fs j args = S at *
  obtain ⟨V, hV⟩ : ∃ V : List Int → Rl Int, V = vaL fs j := ⟨_, rfl⟩
  have eV : ∀ l, vaL fs j l = V l := fun l => by rw [hV]
  simp only [eV] at HAF HGO HLE
  clear hV eV
  generalize (fs.getD j noFn).name = nm at *
  generalize (fs.getD j noFn).outs.len = mo at *
  subst hpa
  generalize (fs.getD j noFn).params = pa at *
  have HB1 := Lib.hid b1
  have Z1 := Lib.hid z1
  have HA1 := Lib.hid hA1
  have HN0 := Lib.hid hN
  have p5 := HP1.out.c5
  clear b1 z1 hA1 hN hal
  go_enter Tryz.func63, Tryz.ntmps63
  go_wp2_with fail
  clear hw1
  refine HCL.out.mono ?_; rintro e w2 ⟨g0, c0, rfl, o0, b2⟩
  have hs1 := HB1.out.size
  have hz1 := Z1.out
  have hs2 := b2.size
  have hg0 := o0.base
  have bA : Below w2.heap.size w2 (w2.alloc (.cells #[.slice (some ⟨g0, 0, none⟩) args.length c0] 25)) := (Below.refl _ _).alloc (Nat.le_refl _) _
  have HM0 : Hid (∃ A K, Mq (w2.alloc (.cells #[.slice (some ⟨g0, 0, none⟩) args.length c0] 25)) (w.heap.size + 1) w2.heap.size 1 (0 + 1) (stR S (0 + 1)) A K) := ⟨_, _, Mq.one (o0.mono (by omega)) (by rw [stR_at (by omega), HS0.out.2])⟩
  have b12 : Below w1.heap.size w1 (w2.alloc (.cells #[.slice (some ⟨g0, 0, none⟩) args.length c0] 25)) := b2.trans (bA.mono hs2)
  have HX0 : Hid (∃ ga cga, PBox (w2.alloc (.cells #[.slice (some ⟨g0, 0, none⟩) args.length c0] 25)) w.heap.size ofN (.slice ap fs.length capp) (.string nm) (.int .i64 pa) (.slice af args.length cf) (.slice ga args.length cga) ∧ At (w2.alloc (.cells #[.slice (some ⟨g0, 0, none⟩) args.length c0] 25)) ga (S 0).l ∧ Nums (S 0).l ∧ (S 0).l.length = args.length ∧ args.length ≤ cga ∧ cga ≤ 9223372036854775807 ∧ ∀ b, blk ga (S 0).l = some b → b ≠ w.heap.size ∧ b ≠ w2.heap.size) := by
    refine ⟨aa, ca, HP1.out.next b12, ?_⟩
    rw [HS0.out.2]
    exact ⟨HA1.out.below b12 (Nat.le_refl _), HN0.out, rfl, hca, hca2, fun b hb => by have := HBA.out b hb; omega⟩
  have HB0 : Hid (Below w.heap.size w (w2.alloc (.cells #[.slice (some ⟨g0, 0, none⟩) args.length c0] 25))) := HB1.out.trans (b12.mono hs1)
  have HG0 : Hid (w.heap.size < w2.heap.size) := by show _ < _; omega
  clear HCL HP1 HA1 HN0 HBA p5 bA b12 o0 b2 hg0 HB1
  go_wp2_with fail
  go_loopw [6, 15] (fun lv x wr => ∃ i g kg : Nat, i ≤ n ∧ x = .int .i64 i ∧ lv = .slice (some ⟨g, 0, none⟩) (i + 1) kg ∧ Hid ((S i).c = 0) ∧ Hid (∃ A K, Mq wr (w.heap.size + 1) g kg (i + 1) (stR S (i + 1)) A K) ∧ Hid (∃ ga cga, PBox wr w.heap.size ofN (.slice ap fs.length capp) (.string nm) (.int .i64 pa) (.slice af args.length cf) (.slice ga args.length cga) ∧ At wr ga (S i).l ∧ Nums (S i).l ∧ (S i).l.length = args.length ∧ args.length ≤ cga ∧ cga ≤ 9223372036854775807 ∧ ∀ b, blk ga (S i).l = some b → b ≠ w.heap.size ∧ b ≠ g) ∧ Hid (Below w.heap.size w wr)) (fun _ x _ => n - (intOf x).toNat)
  case atStart => exact ⟨0, w2.heap.size, 1, Nat.zero_le _, rfl, rfl, HS0.out.1, HM0.out, HX0.out, HB0.out⟩
  case round =>
    obtain ⟨i, g, kg, hi, rfl, rfl, HC, HM, HX, HB⟩ := hrel
    clear HM0 HX0 HB0 HG0 HS0 hs1 hz1 hs2
    have hsw := HB.out.size
    by_cases hlt : i < n
    · have hii : (i : Int) < (n : Int) := by omega
      obtain ⟨ga, cga, hPB, hAt, hNs, hLn, hc1, hc2, hbl⟩ := HX.out
      have HCA := HAF wr HB.out i ga cga hAt hNs hLn hc1 hc2
      obtain ⟨hv1, hv2⟩ := HGO.out i HC.out
      have HPB := Lib.hid hPB
      have HLV := Lib.hid (HLE.out (S i).l)
      have hzl := hPB.lt
      obtain ⟨p0, p1, p2, p3, p4, p5, pz⟩ := hPB
      clear HAF HLE HX hAt hNs hLn hc1 hc2 hbl pz
      generalize V (S i).l = r at *
      go_wp2_with fail
      refine HCA.out.mono ?_; rintro e w3 ⟨b3, ⟨hn, rfl⟩ | ⟨hy, g7, rfl, o7, hN7⟩⟩
      · have hbf : (r.c != 0) = true := by simp [hn]
        have hSn : S n = S (i + 1) := by
          have := HBD.out (i + 1) (n - i - 1) (by rw [hv1]; exact hn)
          rwa [show i + 1 + (n - i - 1) = n by omega] at this
        have HSC : Hid ((S n).c = r.c) := by show _ = _; rw [hSn, hv1]
        have HJ0 : Hid (JA = []) := by show _ = _; rw [HJA.out, if_neg (by rw [HSC.out]; exact hn)]
        have B3 := Lib.hid (HB.out.trans (b3.mono hsw))
        have hs3 := B3.out.size
        obtain ⟨W6, hW6⟩ : ∃ W6, w3.alloc (.cells #[.nilIface, .slice none 0 0, .string ⟨#[]⟩, .int .i64 0, .slice none 0 0, .slice none 0 0] 67) = W6 := ⟨_, rfl⟩
        have q0 : PBox W6 w3.heap.size .nilIface (.slice none 0 0) (.string ⟨#[]⟩) (.int .i64 0) (.slice none 0 0) (.slice none 0 0) := by rw [← hW6]; exact ⟨by simp [go_sem], by simp [go_sem], by simp [go_sem], by simp [go_sem], by simp [go_sem], by simp [go_sem], fun o => by simp [go_sem]⟩
        have b6 : Below w3.heap.size w3 W6 := by rw [← hW6]; exact (Below.refl _ _).alloc (Nat.le_refl _) _
        have l0 := q0.c0
        have l1 := q0.c1
        have l2 := q0.c2
        have l3 := q0.c3
        have l4 := q0.c4
        have l5 := q0.c5
        have m0 := q0.fz 0
        have m1 := q0.fz 1
        have m2 := q0.fz 2
        have m3 := q0.fz 3
        have m4 := q0.fz 4
        have m5 := q0.fz 5
        have B6 := Lib.hid (B3.out.trans (b6.mono hs3))
        clear HCA hn hSn p0 p1 p2 p3 p4 p5 b3 q0 b6
        go_wp2_with fail
        go_ret2
        exact ⟨none, 0, by rw [HSC.out, HJ0.out]; rfl, .inl HJ0.out, below6 (B := w3.heap.size) B6.out (by omega) _ _ _ _ _ _⟩
      · have hln := HLV.out hy
        rw [hln] at o7 ⊢
        have hbf : (r.c != 0) = false := by rw [hy]; rfl
        have hg7 := o7.base
        have hs3 := b3.size
        have B3 := HB.out.trans (b3.mono hsw)
        have hzp := HPB.out.lt
        obtain ⟨W6, hW6⟩ : ∃ W6, w3.alloc (.cells #[.nilIface, .slice none 0 0, .string ⟨#[]⟩, .int .i64 0, .slice none 0 0, .slice none 0 0] 67) = W6 := ⟨_, rfl⟩
        have q0 : PBox W6 w3.heap.size .nilIface (.slice none 0 0) (.string ⟨#[]⟩) (.int .i64 0) (.slice none 0 0) (.slice none 0 0) := by rw [← hW6]; exact ⟨by simp [go_sem], by simp [go_sem], by simp [go_sem], by simp [go_sem], by simp [go_sem], by simp [go_sem], fun o => by simp [go_sem]⟩
        have b6 : Below w3.heap.size w3 W6 := by rw [← hW6]; exact (Below.refl _ _).alloc (Nat.le_refl _) _
        have l0 := q0.c0
        have l1 := q0.c1
        have l2 := q0.c2
        have l3 := q0.c3
        have l4 := q0.c4
        have l5 := q0.c5
        have m0 := q0.fz 0
        have m1 := q0.fz 1
        have m2 := q0.fz 2
        have m3 := q0.fz 3
        have m4 := q0.fz 4
        have m5 := q0.fz 5
        obtain ⟨W7, hW7⟩ : ∃ W7, ((((((W6.setCell ⟨w3.heap.size, 0, none⟩ ofN).setCell ⟨w3.heap.size, 1, none⟩ (.slice ap fs.length capp)).setCell ⟨w3.heap.size, 2, none⟩ (.string nm)).setCell ⟨w3.heap.size, 3, none⟩ (.int .i64 pa)).setCell ⟨w3.heap.size, 4, none⟩ (.slice af args.length cf)).setCell ⟨w3.heap.size, 5, none⟩ (.slice (some ⟨g7, 0, none⟩) args.length args.length)) = W7 := ⟨_, rfl⟩
        have P7 : PBox W7 w3.heap.size ofN (.slice ap fs.length capp) (.string nm) (.int .i64 pa) (.slice af args.length cf) (.slice (some ⟨g7, 0, none⟩) args.length args.length) := by rw [← hW7]; exact q0.put6
        have b7 : Below w3.heap.size w3 W7 := by rw [← hW7]; exact below6 (B := w3.heap.size) b6 (Nat.le_refl _) _ _ _ _ _ _
        have b37 : Below wr.heap.size wr W7 := b3.trans (b7.mono hs3)
        have Pz7 := HPB.out.next b37
        obtain ⟨W8, hW8⟩ : ∃ W8, ((((((W7.setCell ⟨w.heap.size, 0, none⟩ ofN).setCell ⟨w.heap.size, 1, none⟩ (.slice ap fs.length capp)).setCell ⟨w.heap.size, 2, none⟩ (.string nm)).setCell ⟨w.heap.size, 3, none⟩ (.int .i64 pa)).setCell ⟨w.heap.size, 4, none⟩ (.slice af args.length cf)).setCell ⟨w.heap.size, 5, none⟩ (.slice (some ⟨g7, 0, none⟩) args.length args.length)) = W8 := ⟨_, rfl⟩
        have P8 : PBox W8 w.heap.size ofN (.slice ap fs.length capp) (.string nm) (.int .i64 pa) (.slice af args.length cf) (.slice (some ⟨g7, 0, none⟩) args.length args.length) := by rw [← hW8]; exact Pz7.put6
        have k8 : Kp (fun b => b = w.heap.size) W7 W8 := by rw [← hW8]; exact kp6 (S := fun b => b = w.heap.size) (B := w.heap.size) rfl _ _ _ _ _ _
        have k78 : Kp (fun b => b = w.heap.size) wr W8 := (Kp.of_below b37).trans k8
        obtain ⟨A, K, hM⟩ := HM.out
        have hgb := hM.base
        have hM8 := hM.keep k78 (by omega) (fun q hq p hp => by have := (hM.row q hq).blk p hp; omega)
        obtain ⟨us, hu1, hu2⟩ := hM8.top
        have hul : us.length = i + 1 := by have := hu1.1; omega
        have hs78 := k8.size
        have hs7 := b7.size
        have o8 : Own (w.heap.size + 1) W8 g7 args.length r.l := by
          have h1 : OwR (w.heap.size + 1) w3 (some ⟨g7, 0, none⟩) args.length r.l := (show OwR wr.heap.size w3 (some ⟨g7, 0, none⟩) args.length r.l from by rw [← hln] at o7 ⊢; exact o7).mono (by omega)
          exact (h1.keep (S := fun _ => False) (Kp.of_below b7) (fun _ _ h => h)).keep k8 (fun p hp e => by cases hp; have e2 : g7 = w.heap.size := e; omega)
        have B8 : Below w.heap.size w W8 := (B3.trans (b7.mono B3.size)).trans (k8.below (by have := B3.size; omega) (fun b e => by omega))
        have k0 := P7.c0
        have k1 := P7.c1
        have k2 := P7.c2
        have k3 := P7.c3
        have k4 := P7.c4
        have k5 := P7.c5
        have y0 := Pz7.c0
        have y1 := Pz7.c1
        have y2 := Pz7.c2
        have y3 := Pz7.c3
        have y4 := Pz7.c4
        have y5 := Pz7.c5
        have f0 := Pz7.fz 0
        have f1 := Pz7.fz 1
        have f2 := Pz7.fz 2
        have f3 := Pz7.fz 3
        have f4 := Pz7.fz 4
        have f5 := Pz7.fz 5
        have x5 := P8.c5
        have HP8 := Lib.hid P8
        have HO8 := Lib.hid o8
        have HB8 := Lib.hid B8
        have HM8 := Lib.hid hM8
        have HU2 := Lib.hid hu2
        have HWL : Hid (g7 ≠ g ∧ w.heap.size < g7 ∧ w.heap.size < g ∧ g7 < W8.heap.size ∧ (∀ q, q < i + 1 → ∀ p : Addr, A q = some p → p.block ≠ g7) ∧ w.heap.size < W8.heap.size) := ⟨by omega, by omega, by omega, by omega, fun q hq p hp => by have := (hM.row q hq).blk p hp; omega, by omega⟩
        have HY := Lib.hid hy
        have HN7 := Lib.hid hN7
        have HLN := Lib.hid hln
        have HV1 := Lib.hid hv1
        have HV2 := Lib.hid hv2
        clear HCA HM hM p0 p1 p2 p3 p4 p5 b3 q0 b6 P7 b7 b37 Pz7 P8 k8 k78 hM8 hu2 o7 o8 B8 B3 hy hN7 hln hv1 hv2 HPB HLV hzl hzp hg7 hs3 hs7 hs78
        have hgw : w.heap.size < g := HWL.out.2.2.1
        have hsz8 : w.heap.size < W8.heap.size := HWL.out.2.2.2.2.2
        go_wp2_with (at_builtin; refine wpList_append_lies _ rfl _ _ _ rfl (w.heap.size + 1) 25 i1 _ 1 24 Tryz.underlying47 hj1 hy0 hy1 hy2 rfl (by omega) (.slice (some ⟨g, 0, none⟩) (i + 1) kg) (i + 1) us rfl (hu1.alloc _) ⟨W8.heap.size, 0, none⟩ 1 1 [.slice (some ⟨g7, 0, none⟩) args.length args.length] rfl rfl (World.news_of_block (cs := #[.slice (some ⟨g7, 0, none⟩) args.length args.length]) (t := 25) (fr := (0, 0)) (heap_alloc_new W8 _)) (by simp [Value.oneCell']) (by omega) (by unfold maxLen; omega) (by omega) (by simp; omega) (W8.heap.size + 1) (by simp) ?_; intro gg cg w4 hown4 hgrow hat hlt4)
        have bA : Below W8.heap.size W8 (W8.alloc (.cells #[.slice (some ⟨g7, 0, none⟩) args.length args.length] 25)) := (Below.refl _ _).alloc (Nat.le_refl _) _
        obtain ⟨e1, e2, e3, e4, e5, e6⟩ := HWL.out
        have hgg : gg = g ∨ (W8.alloc (.cells #[.slice (some ⟨g7, 0, none⟩) args.length args.length] 25)).heap.size ≤ gg := by
          rcases hat with e | e
          · left; simp [Value.ownBlock] at e; exact e.symm
          · right; simp; omega
        have oA : OwR (w.heap.size + 1) (W8.alloc (.cells #[.slice (some ⟨g7, 0, none⟩) args.length args.length] 25)) (some ⟨g7, 0, none⟩) args.length r.l := HO8.out.owr.keep (S := fun _ => False) (Kp.of_below bA) (fun _ _ h => h)
        have kg : Kp (fun b => b = g) (W8.alloc (.cells #[.slice (some ⟨g7, 0, none⟩) args.length args.length] 25)) w4 := Kp.grown hgrow (fun _ e => by cases e; rfl)
        have hN := HM8.out.pushR (ls' := stR S (i + 1 + 1)) bA hul HU2.out oA e1 e5 hgrow hgg (by rw [HLN.out]; exact hown4) (fun q hq => by
          rw [stR_at hq]
          by_cases e : q = i + 1
          · rw [if_pos e, e, HV2.out]
          · rw [if_neg e, stR_at (by omega)])
        have E1 : Hid (∃ A K, Mq w4 (w.heap.size + 1) gg cg (i + 1 + 1) (stR S (i + 1 + 1)) A K) := ⟨_, _, hN⟩
        have E2 : Hid (Below w.heap.size w w4) := below_grownE (g := g) (HB8.out.trans (bA.mono HB8.out.size)) hgrow (Nat.le_refl _) (by omega)
        have o4 := oA.keep kg (fun p hp e => by cases hp; exact e1 e)
        have hsA := bA.size
        have E3 : Hid (∃ ga cga, PBox w4 w.heap.size ofN (.slice ap fs.length capp) (.string nm) (.int .i64 pa) (.slice af args.length cf) (.slice ga args.length cga) ∧ At w4 ga (S (i + 1)).l ∧ Nums (S (i + 1)).l ∧ (S (i + 1)).l.length = args.length ∧ args.length ≤ cga ∧ cga ≤ 9223372036854775807 ∧ ∀ b, blk ga (S (i + 1)).l = some b → b ≠ w.heap.size ∧ b ≠ gg) := by
          refine ⟨some ⟨g7, 0, none⟩, args.length, (HP8.out.next bA).keep kg (by omega), ?_⟩
          rw [HV2.out]
          exact ⟨o4.at, HN7.out, HLN.out, Nat.le_refl _, by omega, fun b hb => by have := blk_eqE hb; omega⟩
        have E4 : Hid ((S (i + 1)).c = 0) := by show _ = _; rw [HV1.out]; exact HY.out
        clear hown4 hgrow hat hu1 bA hgg oA kg hN o4
        go_wp2_with fail
        go_roundw
        case rel => exact ⟨i + 1, gg, cg, by omega, by go_num, rfl, E4, E1, E3, E2⟩
        case measure => simp [intOf]; omega
    · have hii : ¬ (i : Int) < (n : Int) := by omega
      obtain rfl : i = n := by omega
      go_wp2_with fail
      go_ret2
      have hJ : JA = stR S (i + 1) := by rw [HJA.out, if_pos HC.out]
      have hl : JA.length = i + 1 := by rw [hJ]; exact stR_len _ _
      obtain ⟨A, K, hM⟩ := HM.out
      exact ⟨_, kg, by rw [HC.out, hl]; rfl, .inr ⟨g, A, K, rfl, by rw [hl, hJ]; exact hM.mono (by omega)⟩, HB.out⟩

end Go.Proofs.YtoedccgiahegnaaGreat
