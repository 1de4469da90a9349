/- A column of rows of two. The Jacobian of the model. JacobianOf and GradientOf by the model. -/
import Derived.Deep.RegionLawGrows
import Derived.Deep.AppendLies
import Derived.Test.YtoedccgiahegnaaGreatGh
import Derived.Test.YtoedccgiahegnaaGreatJd
import Derived.Test.YtoedccgiahegnaaGreatFf
namespace Go.Proofs.YtoedccgiahegnaaGreat
open Go.RowKit
set_option linter.unusedVariables false

theorem col_at {m : List (List Int)} {l : List IP} {pk : Nat} (e : colL 1 m = l.map Prod.snd) : (m.getD pk []).getD 1 0 = (l.getD pk (0, 0)).2 := by
  have hl : m.length = l.length := by have := congrArg List.length e; simpa [colL] using this
  have h := congrArg (fun x => x.getD pk 0) e
  simp only [colL] at h
  by_cases hk : pk < l.length
  · have hm : pk < m.length := by omega
    simp [List.getD_eq_getElem?_getD, List.getElem?_eq_getElem hk, List.getElem?_eq_getElem hm] at h ⊢
    exact h
  · simp [List.getD_eq_getElem?_getD, List.getElem?_eq_none (show m.length ≤ pk by omega), List.getElem?_eq_none (show l.length ≤ pk by omega)]

end Go.Proofs.YtoedccgiahegnaaGreat

namespace Go.Proofs.YtoedccgiahegnaaGreat
open Go Go.RowKit
set_option linter.unusedVariables false

/-- one more row, that holds nothing yet -/
theorem Mq.push {W W1 W2 : World} {L g kg gg cg i r : Nat} {ls ls' : List (List Int)} {A : Nat → Option Addr} {K : Nat → Nat} {vs : List Value} (h : Mq W L g kg i ls A K) (hb : Below W.heap.size W W1) (hu : vs.length = i) (hv : ∀ q, q < i → vs[q]? = some (.slice (A q) (ls.getD q []).length (K q)))
    (hr : Own L W1 r 0 []) (hrw : W.heap.size ≤ r) (hg : W1.grownBy W2 (some g)) (hgg : gg = g ∨ W1.heap.size ≤ gg) (ho : W2.ownsRow L 25 1 (.slice (some ⟨gg, 0, none⟩) (i + 1) cg) (i + 1) (vs ++ [.slice (some ⟨r, 0, none⟩) 0 0]))
    (hl : ∀ q, q < i + 1 → ls'.getD q [] = if q = i then [] else ls.getD q []) : Mq W2 L gg cg (i + 1) ls' (fun q => if q = i then some ⟨r, 0, none⟩ else A q) (fun q => if q = i then 0 else K q) := by
  have kg : Kp (fun b => b = g) W1 W2 := Kp.grown hg (fun _ e => by cases e; rfl)
  have kp : Kp (fun b => b = g) W W2 := (Kp.of_below hb).trans kg
  have hgb := h.base
  have hrb := hr.base
  have hs := hb.size
  refine ⟨⟨_, ho, fun q hq => ?_⟩, fun q hq => ?_, fun q hq p hp => ?_, fun q s hq hs' p t hp ht e => ?_⟩
  · rw [hl q hq]
    by_cases e : q = i
    · subst e; rw [List.getElem?_append_right (by omega), hu]; simp
    · rw [List.getElem?_append_left (by omega), hv q (by omega)]; simp [e]
  · rw [hl q hq]
    by_cases e : q = i
    · subst e; simp only [if_true]; exact hr.owr.keep kg (fun p hp => by cases hp; show r ≠ g; omega)
    · simp only [e, if_false]; exact (h.row q (by omega)).keep kp (fun p hp => h.ne q (by omega) p hp)
  · by_cases e : q = i
    · simp only [e, if_true] at hp; cases hp; show r ≠ gg; omega
    · simp only [e, if_false] at hp
      have h1 := h.ne q (by omega) p hp
      have h2 := (h.row q (by omega)).blk p hp
      omega
  · by_cases e1 : q = i
    · by_cases e2 : s = i
      · omega
      · simp only [e1, if_true] at hp
        simp only [e2, if_false] at ht
        cases hp
        have h2 := (h.row s (by omega)).blk t ht
        exact absurd e (by show r ≠ t.block; omega)
    · by_cases e2 : s = i
      · simp only [e1, if_false] at hp
        simp only [e2, if_true] at ht
        cases ht
        have h2 := (h.row q (by omega)).blk p hp
        exact absurd e (by show p.block ≠ r; omega)
      · simp only [e1, if_false] at hp
        simp only [e2, if_false] at ht
        exact h.inj q s (by omega) (by omega) p t hp ht e
theorem mq_start (w : World) (f : Nat → Nat → Int) : Mq (w.alloc (.cells #[] 25)) w.heap.size w.heap.size 0 0 (jaR f 0 0 0) (fun _ => none) (fun _ => 0) :=
  ⟨⟨[], World.ownsRow_made w #[] 0 (Nat.le_refl _) (by unfold maxLen; omega) rfl, fun i h => absurd h (Nat.not_lt_zero _)⟩, fun i h => absurd h (Nat.not_lt_zero _), fun i h => absurd h (Nat.not_lt_zero _), fun i j h => absurd h (Nat.not_lt_zero _)⟩
/-- rows as one reads them: the second numbers of lists of two -/
def OutC (W : World) (Lo g n : Nat) (s : List (List Int)) : Prop := ∀ i, i < n → ∃ b o ci, W.cell? ⟨g, i, none⟩ = some (.slice (some ⟨b, o, none⟩) 2 ci) ∧ W.cell? ⟨b, o + 1, none⟩ = some (.int .i64 ((s.getD i []).getD 1 0)) ∧ Lo ≤ g ∧ Lo ≤ b
theorem OutC.keep {S : Nat → Prop} {W W' : World} {Lo g n : Nat} {s : List (List Int)} (h : OutC W Lo g n s) (k : Kp S W W') (hS : ∀ b, S b → b < Lo) : OutC W' Lo g n s := by
  intro i hi
  obtain ⟨b, o, ci, h1, h2, h3, h4⟩ := h i hi
  exact ⟨b, o, ci, k.cell h1 (fun e => by have := hS _ e; omega), k.cell h2 (fun e => by have := hS _ e; omega), h3, h4⟩
theorem Eo.outC {W : World} {L br g kg m : Nat} {s : List (List Int)} (h : Eo W L br (fun _ => False) 2 g kg m s) : OutC W L g m s := by
  intro i hi
  obtain ⟨vs, h1, h2⟩ := h.top
  obtain ⟨ai, ci, h3, h4, h5⟩ := h2 i hi
  have hl := h.len i hi
  have hlt : (s.getD i []).length = 2 := hl
  obtain ⟨b, o, rfl, hb, hc⟩ := h4.at_.resolve_left (by intro e; rw [e] at hlt; simp at hlt)
  have hne : ¬ s.getD i [] = [] := by intro e; rw [e] at hlt; simp at hlt
  have hbl := h5 b (by unfold blk; rw [if_neg hne]; rfl)
  refine ⟨b, o, ci, ?_, hc 1 (by omega), h.base.1, hbl.2.elim (fun e => e.elim) (fun e => e)⟩
  rw [h1.cellAt i (by omega)]; exact h3

/-- the code behind so many parameters -/
def jmD (fs : List Fn) (j : Nat) (args : List Int) (k : Nat) : Int := if (vaL fs j args).c = 0 then jaC fs j args k else (vaL fs j args).c
theorem jmD_n {fs : List Fn} {j : Nat} {args : List Int} : jmD fs j args args.length = jcC fs j args := rfl
theorem jmD_zero {fs : List Fn} {j : Nat} {args : List Int} {k : Nat} (h : jmD fs j args k = 0) : (vaL fs j args).c = 0 ∧ jaC fs j args k = 0 := by
  unfold jmD at h
  by_cases hv : (vaL fs j args).c = 0
  · rw [if_pos hv] at h; exact ⟨hv, h⟩
  · rw [if_neg hv] at h; exact absurd h hv
theorem jmD_next {fs : List Fn} {j : Nat} {args : List Int} {k : Nat} (h : jmD fs j args k = 0) : jmD fs j args (k + 1) = (alL fs j args (unitV args.length k)).c := by
  obtain ⟨h1, h2⟩ := jmD_zero h
  unfold jmD
  rw [if_pos h1, jaC, if_pos h2]
theorem jmD_bad {fs : List Fn} {j : Nat} {args : List Int} {k : Nat} (h : ¬ jmD fs j args k = 0) : ∀ d, jmD fs j args (k + d) = jmD fs j args k
  | 0 => rfl
  | d + 1 => by
    have ih := jmD_bad h d
    unfold jmD at h ih ⊢
    by_cases hv : (vaL fs j args).c = 0
    · rw [if_pos hv] at h ih ⊢
      rw [if_pos hv] at ih ⊢
      rw [← Nat.add_assoc, jaC, ih, if_neg h]
    · rw [if_neg hv, if_neg hv]

set_option maxRecDepth 100000 in
set_option maxHeartbeats 12800000 in
theorem sJacobian (fs : List Fn) (bp op : Nat) (ap : Option Addr) (capp : Nat) (j : Nat) (aa : Option Addr) (ca : Nat) (args : List Int) (w : World)
    (hp : w.cell? ⟨bp, op, none⟩ = some (.slice ap fs.length capp)) (hpb : progB fs = true) (hj : j < fs.length) (hfl : fs.length ≤ 1048576) (hP : Pat w 0 w.heap.size fs ap) (hA : At w aa args) (hN : Nums args) (hal : (args.length : Int) = (fs.getD j noFn).params) (hab : args.length ≤ 1048576) :
    Calls Tryz.prog 64 #[.pointer (some ⟨bp, op, none⟩), .int .i64 j, .slice aa args.length ca] w (JaRes w (jcA fs j args) (jcC fs j args)) := by
  obtain ⟨i0, hi0, hz0, hz1, hzz⟩ := info_parts info64
  obtain ⟨i1, hj1, hy0, hy1, hy2⟩ := info_parts infoRowE
  have hol : (fs.getD j noFn).outs.len ≤ 12 := (fn_parts (progB_fn hpb hj)).2.1.2
  have HV : Hid (Calls Tryz.prog 37 #[.pointer (some ⟨bp, op, none⟩), .int .i64 j, .slice aa args.length ca] w (fun e w' => ∃ av nv cv st, e = .returned (.tuple #[.slice av nv cv, .int .i64 st, .int .i64 (jmD fs j args 0)]) ∧ nv ≤ 12 ∧ (jmD fs j args 0 = 0 → nv = (fs.getD j noFn).outs.len) ∧ Below w.heap.size w w')) := by
    refine Lib.hid ((sEval fs bp op ap capp j aa ca args w hp hpb hj hfl hP hA hN hal).mono ?_)
    have hd : jmD fs j args 0 = (vaL fs j args).c := by
      unfold jmD
      by_cases hv : (vaL fs j args).c = 0
      · rw [if_pos hv, hv]; rfl
      · rw [if_neg hv]
    have hle : (vaL fs j args).c = 0 → (vaL fs j args).l.length = (fs.getD j noFn).outs.len := lisE_len _
    rw [hd]
    rintro e w' ⟨hb, ⟨hc, g, cap, rfl, _, _⟩ | ⟨hc, g, rfl⟩⟩
    · have hc' : (vaL fs j args).c = 0 := hc
      have hl := hle hc'
      refine ⟨some ⟨g, 0, none⟩, (vaL fs j args).l.length, cap, ((vaL fs j args).s : Int), ?_, by omega, fun _ => hl, hb⟩
      rw [hc']; rfl
    · exact ⟨some ⟨g, 0, none⟩, 0, 0, 0, rfl, by omega, fun h => absurd h hc, hb⟩
  have HU := fun (W : World) (k : Nat) (hk : k < args.length) => Lib.hid (sUnit args.length k hk hab W)
  have HT := fun (W : World) (hW : Below w.heap.size w W) (k : Nat) (hD : jmD fs j args k = 0) (g : Nat) (ho : Own w.heap.size W g args.length (unitV args.length k)) => Lib.hid (show Calls Tryz.prog 44 #[.pointer (some ⟨bp, op, none⟩), .int .i64 j, .slice aa args.length ca, .slice (some ⟨g, 0, none⟩) args.length args.length, .int .i64 1] W (fun e w' => ∃ g2 no c2, e = .returned (.tuple #[.slice (some ⟨g2, 0, none⟩) no c2, .int .i64 (jmD fs j args (k + 1))]) ∧ no ≤ 12 ∧ Below W.heap.size W w' ∧ (¬ jmD fs j args (k + 1) = 0 → no = 0) ∧ (jmD fs j args (k + 1) = 0 → no = (fs.getD j noFn).outs.len ∧ ∃ Lo s, W.heap.size ≤ Lo ∧ OutC w' Lo g2 no s ∧ ∀ i, (s.getD i []).getD 1 0 = slU fs j args k i)) from by
    have hul := unitV_len args.length k
    have h := sTaylor 1 2 (by omega) (by omega) (by omega) fs bp op ap capp j aa (some ⟨g, 0, none⟩) ca args.length args (unitV args.length k) W ((hW.cell (p := ⟨bp, op, none⟩) (cell_lt hp)).trans hp) hpb hj hfl ((hP.below hW).mono (Nat.le_refl _) hW.size) (hA.below hW (Nat.le_refl _)) ho.at hul hN (unitV_nums _ _) hal
    rw [hul] at h
    obtain ⟨r1, r2⟩ := s2_al hpb hj hN (unitV_nums args.length k) hul hal
    have hle : (s2L fs j args (unitV args.length k)).c = 0 → (s2L fs j args (unitV args.length k)).l.length = (fs.getD j noFn).outs.len := lisE_len _
    rw [jmD_next hD, ← r1]
    refine Calls.mono h ?_
    rintro e w' ⟨hb, ⟨hc, g2, kg, L, br, rfl, hbr, hbL, hO⟩ | ⟨hc, g2, rfl⟩⟩
    · have hc' : (s2L fs j args (unitV args.length k)).c = 0 := hc
      refine ⟨g2, (fs.getD j noFn).outs.len, kg, by rw [hc'], hol, hb, fun h => absurd hc' h, fun _ => ⟨rfl, L, _, by omega, hO.outC, fun i => ?_⟩⟩
      have hc2 : (alL fs j args (unitV args.length k)).c = 0 := by rw [← r1]; exact hc'
      exact col_at (r2 hc2).2
    · have hc' : ¬ (s2L fs j args (unitV args.length k)).c = 0 := hc
      exact ⟨g2, 0, 0, rfl, by omega, hb, fun _ => rfl, fun h => absurd h hc'⟩)
  have HD1 : Hid (∀ k, jmD fs j args k = 0 → jmD fs j args 0 = 0) := fun k h => by
    obtain ⟨h1, _⟩ := jmD_zero h
    unfold jmD; rw [if_pos h1]; rfl
  have HD2 : Hid (∀ k, k ≤ args.length → ¬ jmD fs j args k = 0 → jcC fs j args = jmD fs j args k) := fun k hk h => by
    have := jmD_bad h (args.length - k)
    rw [show k + (args.length - k) = args.length by omega, jmD_n] at this
    exact this
  have HD3 : Hid (jmD fs j args args.length = jcC fs j args) := jmD_n
  have HJA : Hid (jcA fs j args = if jcC fs j args = 0 then jaR (slU fs j args) (fs.getD j noFn).outs.len args.length 0 else []) := by
    show _ = _
    unfold jcA jcC jaA
    by_cases hv : (vaL fs j args).c = 0
    · rw [if_pos hv, if_pos hv]
    · rw [if_neg hv, if_neg hv, if_neg hv]
  clear hp hpb hj hP hA hN hal
  generalize jmD fs j args = D at *
  generalize jcC fs j args = C at *
  generalize jcA fs j args = JA at *
  generalize slU fs j args = f at *
  generalize (fs.getD j noFn).outs.len = mo at *
  have HOL := Lib.hid hol
  clear hol
  generalize args.length = n at *
  go_enter Tryz.func64, Tryz.ntmps64
  go_wp2_with fail
  refine HV.out.mono ?_; rintro e w1 ⟨av, nv, cv, st, rfl, hnv, hnv0, b1⟩
  have HNV := Lib.hid hnv0
  have hs1 := b1.size
  have HM0 := Lib.hid ((mq_start w1 f).mono hs1)
  have HB0 : Hid (Below w.heap.size w (w1.alloc (.cells #[] 25))) := b1.alloc hs1 _
  have HCD : Hid (∀ d, D 0 = d → d = D 0) := fun _ h => h.symm
  obtain ⟨d0, hd0⟩ : ∃ d0, D 0 = d0 := ⟨_, rfl⟩
  rw [hd0]
  have HDD := Lib.hid hd0
  clear HV hnv0 HCD hd0 b1
  go_wp2_with fail
  go_loopw [11, 12] (fun lv x wr => ∃ i g kg : Nat, i ≤ nv ∧ x = .int .i64 i ∧ lv = .slice (some ⟨g, 0, none⟩) i kg ∧ Hid (∃ A K, Mq wr w.heap.size g kg i (jaR f i 0 0) A K) ∧ Hid (Below w.heap.size w wr)) (fun _ x _ => nv - (intOf x).toNat)
  case atStart => exact ⟨0, w1.heap.size, 0, Nat.zero_le _, rfl, rfl, ⟨_, _, HM0.out⟩, HB0.out⟩
  case round =>
    obtain ⟨i, g, kg, hi, rfl, rfl, HM, HB⟩ := hrel
    clear HM0 HB0
    by_cases hlt : i < nv
    · have hii : (i : Int) < (nv : Int) := by omega
      obtain ⟨A, K, hM⟩ := HM.out
      have hgb := hM.base
      obtain ⟨us, hu1, hu2⟩ := hM.top
      have hul : us.length = i := by have := hu1.1; omega
      have hsw := HB.out.size
      have HM2 := Lib.hid hM
      have HU2 := Lib.hid hu2
      have HNB : Hid (((wr.alloc (.cells #[] 2)).alloc (.cells #[.slice (some ⟨wr.heap.size, 0, none⟩) 0 0] 25)).heap[wr.heap.size + 1]? = some (.cells #[.slice (some ⟨wr.heap.size, 0, none⟩) 0 0] 25 (0, 0))) := by
        show _ = _
        have e := heap_alloc_new (wr.alloc (.cells #[] 2)) (.cells #[.slice (some ⟨wr.heap.size, 0, none⟩) 0 0] 25)
        simpa using e
      have HO : Hid (Own w.heap.size ((wr.alloc (.cells #[] 2)).alloc (.cells #[.slice (some ⟨wr.heap.size, 0, none⟩) 0 0] 25)) wr.heap.size 0 []) := (own_none wr w.heap.size hsw).alloc _
      have HBA : Hid (Below wr.heap.size wr ((wr.alloc (.cells #[] 2)).alloc (.cells #[.slice (some ⟨wr.heap.size, 0, none⟩) 0 0] 25))) := ((Below.refl _ _).alloc (Nat.le_refl _) _).alloc (by simp) _
      clear hM HM hu2
      go_wp2_with (at_builtin; refine wpList_append_lies _ rfl _ _ _ rfl w.heap.size 25 i1 _ 1 24 Tryz.underlying47 hj1 hy0 hy1 hy2 rfl (by omega) (.slice (some ⟨g, 0, none⟩) i kg) i us rfl ((hu1.alloc _).alloc _) ⟨wr.heap.size + 1, 0, none⟩ 1 1 [.slice (some ⟨wr.heap.size, 0, none⟩) 0 0] rfl rfl (World.news_of_block (cs := #[.slice (some ⟨wr.heap.size, 0, none⟩) 0 0]) (t := 25) (fr := (0, 0)) HNB.out) (by simp [Value.oneCell']) (by omega) (by unfold maxLen; omega) (by omega) (by simp; omega) (wr.heap.size + 1 + 1) (by simp) ?_; intro gg cg w4 hown4 hgrow hat hlt4)
      have hgg : gg = g ∨ ((wr.alloc (.cells #[] 2)).alloc (.cells #[.slice (some ⟨wr.heap.size, 0, none⟩) 0 0] 25)).heap.size ≤ gg := by
        rcases hat with e | e
        · left; simp [Value.ownBlock] at e; exact e.symm
        · right; simp; omega
      have hN := HM2.out.push (ls' := jaR f (i + 1) 0 0) HBA.out hul HU2.out HO.out (Nat.le_refl _) hgrow hgg hown4 (fun q hq => by
        rw [jaR_at hq]
        by_cases e : q = i
        · rw [if_pos e]; simp
        · rw [if_neg e, jaR_at (by omega)])
      have HN4 : Hid (∃ A K, Mq w4 w.heap.size gg cg (i + 1) (jaR f (i + 1) 0 0) A K) := ⟨_, _, hN⟩
      have HB4 := Lib.hid (below_grownE (g := g) (HB.out.trans (HBA.out.mono hsw)) hgrow (Nat.le_refl _) hgb.1)
      clear hown4 hgrow hat hu1 hgg hN HU2 HM2 HNB HO HBA
      go_wp2_with fail
      go_roundw
      case rel => exact ⟨i + 1, gg, cg, by omega, by go_num, rfl, HN4.out, HB4.out⟩
      case measure => simp [intOf]; omega
    · have hii : ¬ (i : Int) < (nv : Int) := by omega
      obtain rfl : nv = i := by omega
      have HMI := Lib.hid HM.out
      have hgb : g < wr.heap.size := by obtain ⟨A, K, hM⟩ := HM.out; exact hM.base.2
      have HR0 : Hid (D 0 = 0 → ∃ A K, Mq wr w.heap.size g kg mo (jaR f mo 0 0) A K) := fun h => by
        have := HNV.out h
        subst this
        exact HM.out
      clear HM
      rw [← HDD.out]
      have HG0 := Lib.hid hgb
      have HBI := Lib.hid HB.out
      clear HDD HMI HB hgb
      go_wp2_with fail
      go_loopw [10, 13] (fun c x wr => ∃ k : Nat, k ≤ n ∧ x = .int .i64 k ∧ c = .int .i64 (D k) ∧ Hid (D k = 0 → ∃ A K, Mq wr w.heap.size g kg mo (jaR f mo k 0) A K) ∧ Hid (g < wr.heap.size) ∧ Hid (Below w.heap.size w wr)) (fun _ x _ => n - (intOf x).toNat)
      case atStart => exact ⟨0, Nat.zero_le _, rfl, rfl, HR0.out, HG0.out, HBI.out⟩
      case round =>
        obtain ⟨k, hk, rfl, rfl, HRk, HGk, HBk⟩ := hrel
        clear HR0 HG0 HBI
        by_cases hd : D k = 0
        · rw [hd]
          have HDK := Lib.hid hd
          obtain rfl : mo = nv := (HNV.out (HD1.out k hd)).symm
          clear hd
          by_cases hlt : k < n
          · have hii : (k : Int) < (n : Int) := by omega
            have hsk := HBk.out.size
            have HUK := fun W => HU W k hlt
            have HTK := fun (W : World) (hW : Below w.heap.size w W) (g : Nat) (ho : Own w.heap.size W g n (unitV n k)) => HT W hW k HDK.out g ho
            clear HT HU
            go_wp2_with fail
            refine (HUK _).out.mono ?_; rintro e w3 ⟨g3, rfl, o3, b3⟩
            have b3' : Below wr.heap.size wr w3 := ((Below.refl _ _).alloc (Nat.le_refl _) _).trans (b3.mono (by simp))
            have B3 := HBk.out.trans (b3'.mono hsk)
            have HTQ := HTK w3 B3 g3 (o3.mono (by simp; omega))
            have HB3 := Lib.hid b3'
            have HBB3 := Lib.hid B3
            clear HTK HUK b3 b3' B3 o3
            go_wp2_with fail
            refine HTQ.out.mono ?_; rintro e w4 ⟨g2, no, c2, rfl, hno, b4, hbad, hgo⟩
            have hs3 := HB3.out.size
            have hs4 := b4.size
            obtain ⟨Lo, s, hLo, hOC, hsl⟩ : ∃ Lo s, wr.heap.size ≤ Lo ∧ OutC w4 Lo g2 no s ∧ (D (k + 1) = 0 → ∀ i, (s.getD i []).getD 1 0 = f k i) := by
              by_cases h : D (k + 1) = 0
              · obtain ⟨_, Lo, s, h1, h2, h3⟩ := hgo h
                exact ⟨Lo, s, by omega, h2, fun _ => h3⟩
              · exact ⟨wr.heap.size, [], Nat.le_refl _, fun i hi => by rw [hbad h] at hi; exact absurd hi (Nat.not_lt_zero _), fun h2 => absurd h2 h⟩
            have HOC := Lib.hid hOC
            have HSL := Lib.hid hsl
            have HNO : Hid (D (k + 1) = 0 → no = mo) := fun h => (hgo h).1
            have HBD := Lib.hid hbad
            have b14 : Below wr.heap.size wr w4 := HB3.out.trans (b4.mono hs3)
            have HR4 : Hid (D (k + 1) = 0 → ∃ A K, Mq w4 w.heap.size g kg mo (jaR f mo k 0) A K ∧ ∀ i, 0 ≤ i → i < mo → ∀ p : Addr, A i = some p → p.block < Lo) := fun _ => by
              obtain ⟨A, K, hM⟩ := HRk.out HDK.out
              exact ⟨A, K, hM.next b14, fun i _ hi p hp => by have := ((hM.row i hi).blk p hp).2; omega⟩
            have HG4 : Hid (g < Lo ∧ g < w4.heap.size) := by
              have h1 := HGk.out
              have h2 := b14.size
              exact ⟨by omega, by omega⟩
            have HB4 : Hid (Below w.heap.size w w4) := HBk.out.trans (b14.mono hsk)
            clear HTQ hbad hgo hOC hsl b4 b14 HRk HGk HBk HB3 HBB3
            obtain ⟨d1, hd1⟩ : ∃ d1, D (k + 1) = d1 := ⟨_, rfl⟩
            rw [hd1] at HSL HNO HBD HR4 ⊢
            have HDE := Lib.hid hd1
            clear hd1
            go_wp2_with fail
            go_loopw [15] (fun x wr => ∃ m : Nat, m ≤ no ∧ x = .int .i64 m ∧ Hid (d1 = 0 → ∃ A K, Mq wr w.heap.size g kg mo (jaR f mo k m) A K ∧ ∀ i, m ≤ i → i < mo → ∀ p : Addr, A i = some p → p.block < Lo) ∧ Hid (OutC wr Lo g2 no s) ∧ Hid (g < Lo ∧ g < wr.heap.size) ∧ Hid (Below w.heap.size w wr)) (fun x _ => no - (intOf x).toNat)
            case atStart => exact ⟨0, Nat.zero_le _, rfl, HR4.out, HOC.out, HG4.out, HB4.out⟩
            case round =>
              obtain ⟨m, hm, rfl, HRm, HOm, HGm, HBm⟩ := hrel
              clear HR4 HOC HG4 HB4
              by_cases hmn : m < no
              · have hjj : (m : Int) < (no : Int) := by omega
                have hd1 : d1 = 0 := Classical.byContradiction fun h => by have := HBD.out h; omega
                have hno2 := HNO.out hd1
                have hmo : m < mo := by omega
                have hjk : (m : Int) < (mo : Int) := by omega
                obtain ⟨A, K, hM, hlo⟩ := HRm.out hd1
                obtain ⟨b7, o7, c7, hx1, hx, hb1, hb2⟩ := HOm.out m hmn
                rw [HSL.out hd1 m] at hx
                have HD1Z := Lib.hid hd1
                obtain ⟨x, hfx⟩ : ∃ x, f k m = x := ⟨_, rfl⟩
                rw [hfx] at hx
                have hcell := hM.cell m hmo
                have hfr := hM.frz m
                have hrow := hM.row m hmo
                have HR0 : Hid (((jaR f mo k m).getD m []).length ≤ 1048576) := by
                  show _ ≤ _
                  rw [jaR_at hmo, if_neg (Nat.lt_irrefl _)]; simp; omega
                obtain ⟨rl, hrl⟩ : ∃ rl, (jaR f mo k m).getD m [] = rl := ⟨_, rfl⟩
                obtain ⟨am, ham⟩ : ∃ am, A m = am := ⟨_, rfl⟩
                obtain ⟨km, hkm⟩ : ∃ km, K m = km := ⟨_, rfl⟩
                rw [hrl, ham, hkm] at hcell hrow
                rw [hrl] at HR0
                have hbc := cell_lt hcell
                have hbx1 := cell_lt hx1
                have hbx := cell_lt hx
                have hgl := HGm.out.1
                have hnx : ∀ p : Addr, am = some p → p.block ≠ g ∧ p.block < Lo ∧ p.block < wr.heap.size := fun p hp => ⟨hM.ne m hmo p (by rw [ham]; exact hp), hlo m (Nat.le_refl _) hmo p (by rw [ham]; exact hp), (hrow.blk p hp).2⟩
                have HGE := Lib.hid (show w.heap.size ≤ wr.heap.size from HBm.out.size)
                clear hd1 hno2
                go_wp2_with fail
                refine region_TQ 15 (fun w' => w'.cell? ⟨g, m, none⟩ = some (.slice am rl.length km) ∧ w'.frozen? ⟨g, m, none⟩ = false ∧ w'.cell? ⟨g2, m, none⟩ = some (.slice (some ⟨b7, o7, none⟩) 2 c7) ∧ w'.cell? ⟨b7, o7 + 1, none⟩ = some (.int .i64 x)) (by kernel_rfl) (⟨hcell, hfr, hx1, hx⟩) (fun _ _ d _ _ h => by cases d <;> exact h) (fun HQ hHeld => ?_)
                refine anyT_take (i := 0) (v := ?vT0_1) rfl (by kernel_rfl) (fun c a w h => HQ.out c a _ _ w h) (Or.inl ⟨by rfl, ?hT0_1⟩) hHeld ?rT0_1
                case hT0_1 => (intro wS hSw; (try dsimp only at hSw); go_simp; try with_reducible rfl)
                simp only [Act.put]
                refine anyT_take (i := 1) (v := ?vT1_1) rfl (by kernel_rfl) (fun c a w h => HQ.out c a _ _ w h) (Or.inl ⟨by rfl, ?hT1_1⟩) hHeld ?rT1_1
                case hT1_1 => (intro wS hSw; (try dsimp only at hSw); go_simp; try with_reducible rfl)
                simp only [Act.put]
                refine anyT_take (i := 2) (v := ?vT2_1) rfl (by kernel_rfl) (fun c a w h => HQ.out c a _ _ w h) (Or.inl ⟨by rfl, ?hT2_1⟩) hHeld ?rT2_1
                case hT2_1 => (intro wS hSw; (try dsimp only at hSw); go_simp; try with_reducible rfl)
                simp only [Act.put]
                refine anyT_take (i := 3) (v := ?vT3_1) rfl (by kernel_rfl) (fun c a w h => HQ.out c a _ _ w h) (Or.inl ⟨by rfl, ?hT3_1⟩) hHeld ?rT3_1
                case hT3_1 => (intro wS hSw; (try dsimp only at hSw); go_simp; try with_reducible rfl)
                simp only [Act.put]
                refine anyT_take (i := 4) (v := ?vT4_1) rfl (by kernel_rfl) (fun c a w h => HQ.out c a _ _ w h) (Or.inl ⟨by rfl, ?hT4_1⟩) hHeld ?rT4_1
                case hT4_1 => (intro wS hSw; (try dsimp only at hSw); go_simp; try with_reducible rfl)
                simp only [Act.put]
                refine anyT_take (i := 5) (v := ?vT5_1) rfl (by kernel_rfl) (fun c a w h => HQ.out c a _ _ w h) (Or.inl ⟨by rfl, ?hT5_1⟩) hHeld ?rT5_1
                case hT5_1 => (intro wS hSw; (try dsimp only at hSw); go_simp; try with_reducible rfl)
                simp only [Act.put]
                refine anyT_take (i := 6) (v := ?vT6_1) rfl (by kernel_rfl) (fun c a w h => HQ.out c a _ _ w h) (Or.inl ⟨by rfl, ?hT6_1⟩) hHeld ?rT6_1
                case hT6_1 => (intro wS hSw; (try dsimp only at hSw); go_simp; try with_reducible rfl)
                simp only [Act.put]
                refine anyT_take (i := 7) (v := ?vT7_1) rfl (by kernel_rfl) (fun c a w h => HQ.out c a _ _ w h) (Or.inl ⟨by rfl, ?hT7_1⟩) hHeld ?rT7_1
                case hT7_1 => (intro wS hSw; (try dsimp only at hSw); go_simp; try with_reducible rfl)
                simp only [Act.put]
                refine anyT_take (i := 8) (v := ?vT8_1) rfl (by kernel_rfl) (fun c a w h => HQ.out c a _ _ w h) (Or.inl ⟨by rfl, ?hT8_1⟩) hHeld ?rT8_1
                case hT8_1 => (intro wS hSw; (try dsimp only at hSw); go_simp; try with_reducible rfl)
                simp only [Act.put]
                refine anyT_take (i := 9) (v := ?vT9_1) rfl (by kernel_rfl) (fun c a w h => HQ.out c a _ _ w h) (Or.inl ⟨by rfl, ?hT9_1⟩) hHeld ?rT9_1
                case hT9_1 => (intro wS hSw; (try dsimp only at hSw); go_simp; try with_reducible rfl)
                simp only [Act.put]
                refine anyT_take (i := 10) (v := ?vT10_1) rfl (by kernel_rfl) (fun c a w h => HQ.out c a _ _ w h) (Or.inl ⟨by rfl, ?hT10_1⟩) hHeld ?rT10_1
                case hT10_1 => (intro wS hSw; (try dsimp only at hSw); go_simp; try with_reducible rfl)
                simp only [Act.put]
                refine anyT_take (i := 11) (v := ?vT11_1) rfl (by kernel_rfl) (fun c a w h => HQ.out c a _ _ w h) (Or.inl ⟨by rfl, ?hT11_1⟩) hHeld ?rT11_1
                case hT11_1 => (intro wS hSw; (try dsimp only at hSw); go_simp; try with_reducible rfl)
                simp only [Act.put]
                refine anyT_step (i := 12) rfl (by kernel_rfl) (fun K7 hK => ?_)
                clear hHeld
                go_simp
                have bA : Below wr.heap.size wr (wr.alloc (.cells #[.int .i64 x] 2)).drew := below_drew ((Below.refl _ _).alloc (Nat.le_refl _) _)
                refine hK.out _ _ ⟨(bA.cell (p := ⟨g, m, none⟩) hbc).trans hcell, (bA.frozen (p := ⟨g, m, none⟩) hbc).trans hfr, (bA.cell (p := ⟨g2, m, none⟩) hbx1).trans hx1, (bA.cell (p := ⟨b7, o7 + 1, none⟩) hbx).trans hx⟩ (fun hHeld => ?_)
                clear hK K7
                try simp only [Act.put]
                refine anyT_step (i := 13) rfl (by kernel_rfl) (fun K8 hK => ?_)
                clear hHeld
                refine step_append_lies _ (by rfl) _ _ _ (by rfl) w.heap.size 2 i0 _ 1 8 Tryz.underlying25 hi0 hz0 hz1 hzz rfl (by omega) (.slice am rl.length km) rl.length (rl.map (Value.int .i64)) (by rfl) (hrow.keep (Kp.of_below (S := fun _ => False) bA) (fun _ _ h => h)) ⟨wr.heap.size, 0, none⟩ 1 1 [.int .i64 x] (by rfl) (by rfl) (World.news_of_block (cs := #[.int .i64 x]) (t := 2) (fr := (0, 0)) (heap_alloc_new wr _)) (by simp [Value.oneCell']) (by omega) (by have := HR0.out; unfold maxLen; omega) (by have := HR0.out; omega) (by have := HGE.out; simp; omega) (wr.heap.size + 1) (by simp) ?_
                intro gg cc w5 hown5 hgrow hat hlt5
                have kp4 : Kp (fun b => ∃ p : Addr, am = some p ∧ p.block = b) wr w5 := by
                  refine (Kp.of_below bA).trans (Kp.grown hgrow (fun g e => ?_))
                  cases am with
                  | none => cases e
                  | some p => exact ⟨p, rfl, by simpa [Value.ownBlock] using e⟩
                have q1 := kp4.cell hcell (fun ⟨p, hp, e⟩ => by have h0 := hnx p hp; omega)
                have q2 := (kp4.fz (o := m) hbc (fun ⟨p, hp, e⟩ => by have h0 := hnx p hp; omega)).trans hfr
                have q3 := kp4.cell hx1 (fun ⟨p, hp, e⟩ => by have h0 := hnx p hp; omega)
                have q4 := kp4.cell hx (fun ⟨p, hp, e⟩ => by have h0 := hnx p hp; omega)
                refine hK.out _ _ ⟨q1, q2, q3, q4⟩ (fun hHeld => ?_)
                clear hK K8
                try simp only [Act.put]
                refine anyT_take (i := 14) (v := ?vT14_1) rfl (by kernel_rfl) (fun c a w h => HQ.out c a _ _ w h) (Or.inl ⟨by rfl, ?hT14_1⟩) hHeld ?rT14_1
                case hT14_1 => (intro wS hSw; (try dsimp only at hSw); go_simp; try with_reducible rfl)
                simp only [Act.put]
                refine anyT_last rfl (by kernel_rfl) (by kernel_rfl) (fun K9 hK => ?_)
                try dsimp only at hHeld
                go_simp
                refine hK.out _ _ ?_
                clear hK K9 hHeld
                have hgc : (∃ p : Addr, am = some p ∧ p.block = gg) ∨ gg = wr.heap.size + 1 := by
                  rcases hat with e | e
                  · cases am with
                    | none => cases e
                    | some p => exact .inl ⟨p, rfl, by simpa [Value.ownBlock] using e⟩
                  · exact .inr e
                have hOw : Own w.heap.size w5 gg cc (rl ++ [x]) := by
                  show World.ownsRow _ _ _ _ _ _ _
                  have hl1 : (rl ++ [x]).length = rl.length + 1 := by simp
                  rw [hl1, List.map_append]
                  exact hown5
                have hg1 : gg ≠ g := by
                  have h2 := HGm.out.2
                  rcases hgc with ⟨p, hp, e⟩ | e
                  · have := hnx p hp; omega
                  · omega
                have kp5 : Kp (fun b => (∃ p : Addr, am = some p ∧ p.block = b) ∨ b = g) wr (w5.setCell ⟨g, m, none⟩ (.slice (some ⟨gg, 0, none⟩) (rl.length + 1) cc)) := (kp4.mono (fun _ h => .inl h)).trans (Kp.set (.inr rfl))
                have hM5 := hM.put (ls' := jaR f mo k (m + 1)) hmo (by rw [ham]; exact kp4) hOw hg1 (fun i hi hne p hp e => by
                  rcases hgc with ⟨p0, hp0, e0⟩ | e0
                  · exact hne (hM.inj i m hi hmo p p0 hp (by rw [ham]; exact hp0) (by rw [e, e0]))
                  · have := ((hM.row i hi).blk p hp).2; omega) (fun q hq => by rw [jaR_step hmo q hq, hrl, hfx])
                rw [show (rl ++ [x]).length = rl.length + 1 by simp] at hM5
                have E1 : Hid (d1 = 0 → ∃ A K, Mq (w5.setCell ⟨g, m, none⟩ (.slice (some ⟨gg, 0, none⟩) (rl.length + 1) cc)) w.heap.size g kg mo (jaR f mo k (m + 1)) A K ∧ ∀ i, m + 1 ≤ i → i < mo → ∀ p : Addr, A i = some p → p.block < Lo) := fun _ => by
                  refine ⟨_, _, hM5, fun i h1 hi p hp => ?_⟩
                  have e : ¬ i = m := by omega
                  simp only [e, if_false] at hp
                  exact hlo i (by omega) hi p hp
                have E2 := Lib.hid (HOm.out.keep kp5 (fun b h => h.elim (fun ⟨p, hp, e⟩ => by have := hnx p hp; omega) (fun e => by omega)))
                have E3 : Hid (g < Lo ∧ g < (w5.setCell ⟨g, m, none⟩ (.slice (some ⟨gg, 0, none⟩) (rl.length + 1) cc)).heap.size) := ⟨hgl, Nat.lt_of_lt_of_le HGm.out.2 kp5.size⟩
                have hgb := hM.base
                have E4 : Hid (Below w.heap.size w (w5.setCell ⟨g, m, none⟩ (.slice (some ⟨gg, 0, none⟩) (rl.length + 1) cc))) := HBm.out.trans (kp5.below HGE.out (fun b h => h.elim (fun ⟨p, hp, e⟩ => by have := (hrow.blk p hp).1; omega) (fun e => by omega)))
                clear hM hlo hcell hfr hrow hx1 hx hnx hgc hOw hM5 kp4 kp5 hown5 hgrow hat q1 q2 q3 q4 bA
                go_wp2_with fail
                go_roundw
                case rel => exact ⟨m + 1, by omega, by go_num, E1, E2, E3, E4⟩
                case measure => simp [intOf]; omega
              · have hjj : ¬ (m : Int) < (no : Int) := by omega
                obtain rfl : m = no := by omega
                have E1 : Hid (D (k + 1) = 0 → ∃ A K, Mq wr w.heap.size g kg mo (jaR f mo (k + 1) 0) A K) := fun h => by
                  rw [HDE.out] at h
                  obtain ⟨A, K, hM, _⟩ := HRm.out h
                  rw [HNO.out h, jaR_full] at hM
                  exact ⟨A, K, hM⟩
                go_wp2_with fail
                go_roundw
                case rel => exact ⟨k + 1, by omega, by go_num, by rw [HDE.out], E1.out, HGm.out.2, HBm.out⟩
                case measure => simp [intOf]; omega
          · have hii : ¬ (k : Int) < (n : Int) := by omega
            obtain rfl : k = n := by omega
            go_wp2_with fail
            go_ret2
            have hC : C = 0 := by rw [← HD3.out]; exact HDK.out
            have hJ : JA = jaR f mo k 0 := by rw [HJA.out, if_pos hC]
            have hl : JA.length = mo := by rw [hJ]; exact jaR_len _ _ _ _
            obtain ⟨A, K, hM⟩ := HRk.out HDK.out
            exact ⟨_, kg, by rw [hC, hl]; rfl, .inr ⟨g, A, K, rfl, by rw [hl, hJ]; exact hM⟩, HBk.out⟩
        · have hC := HD2.out k hk hd
          have hJ : JA = [] := by rw [HJA.out, if_neg (by rw [hC]; exact hd)]
          have HC := Lib.hid hC
          have HJ := Lib.hid hJ
          have hbt : (D k == 0) = false := by simp [hd]
          have hbn : (D k != 0) = true := by simp [hd]
          have hsk := HBk.out.size
          clear hC hJ
          by_cases hlt : k < n
          · have hii : (k : Int) < (n : Int) := by omega
            go_wp2_with fail
            go_ret2
            exact ⟨_, 0, by rw [HC.out, HJ.out]; rfl, .inl HJ.out, HBk.out.alloc hsk _⟩
          · have hii : ¬ (k : Int) < (n : Int) := by omega
            go_wp2_with fail
            go_ret2
            exact ⟨_, 0, by rw [HC.out, HJ.out]; rfl, .inl HJ.out, HBk.out.alloc hsk _⟩

end Go.Proofs.YtoedccgiahegnaaGreat

namespace Go.Proofs.YtoedccgiahegnaaGreat
open Go Go.RowKit
set_option linter.unusedVariables false

theorem gr_pk {fs : List Fn} {f pick : Int} {args : List Int} : pkC fs f pick args args = grC0 fs f pick args := by
  unfold pkC grC0
  by_cases h0 : plC fs f args = 0
  · have hd : drC fs f args args = 0 := by
      unfold drC
      rw [if_pos h0, if_pos (plC_known h0).2.2]
    rw [if_pos hd, if_pos h0]
    have e : (0 ≤ pick ∧ pick ≤ ((fs.getD f.toNat noFn).outs.len : Int) - 1) ↔ (0 ≤ pick ∧ pick < ((fs.getD f.toNat noFn).outs.len : Int)) := by omega
    simp only [e]
  · have hd : drC fs f args args = plC fs f args := if_neg h0
    rw [if_neg h0, hd, if_neg h0]
/-- rows and a code, as one reads them -/
def JcM (w : World) (L : List (List Int)) (c : Int) (e : Ending) (w' : World) : Prop := ∃ a ca, e = .returned (.tuple #[.slice a L.length ca, .int .i64 c]) ∧ Mat w' a L ∧ Below w.heap.size w w'

set_option maxRecDepth 100000 in
set_option maxHeartbeats 6400000 in
theorem sJacobianOf (fs : List Fn) (ap : Option Addr) (capp : Nat) (f : Int) (aa : Option Addr) (ca : Nat) (args : List Int) (w : World) (hP : Pat w 0 w.heap.size fs ap) (hsz : pgSize fs ≤ 1048576) (hA : At w aa args) (hal : args.length ≤ 1048576) :
    Calls Tryz.prog 33 #[.agg #[.slice ap fs.length capp], .int .i64 f, .slice aa args.length ca] w (JcM w (jfA fs f args) (jfC fs f args)) := by
  have hfl : fs.length ≤ 1048576 := by unfold pgSize at hsz; omega
  obtain ⟨w0, hw0⟩ : ∃ w0, w.alloc (.cells #[.slice ap fs.length capp] 31) = w0 := ⟨_, rfl⟩
  have hb0 : Below w.heap.size w w0 := by rw [← hw0]; exact (Below.refl _ _).alloc (Nat.le_refl _) _
  have P0 := (hP.below hb0).mono (Nat.le_refl _) hb0.size
  have A0 := hA.below hb0 (Nat.le_refl _)
  have c0 : w0.cell? ⟨w.heap.size, 0, none⟩ = some (.slice ap fs.length capp) := by rw [← hw0]; simp [go_sem]
  have HS := Lib.hid (sArgs fs w.heap.size 0 ap capp f aa ca args w0 c0 P0 hsz A0 hal)
  have hs0 := hb0.size
  by_cases h1 : plC fs f args = 0
  · obtain ⟨k1, k2, k3⟩ := plC_known h1
    have E1 : Hid (jfC fs f args = jcC fs f.toNat args) := if_pos h1
    have E2 : Hid (jfA fs f args = jcA fs f.toNat args) := if_pos h1
    rw [h1] at HS
    obtain ⟨j, rfl⟩ := Int.eq_ofNat_of_zero_le k2.1
    have ej : (j : Int).toNat = j := rfl
    rw [ej] at k3 E1 E2
    have hj : j < fs.length := by omega
    have HJ := fun (q : Nat) => Lib.hid (sJacobian fs w.heap.size 0 ap capp j aa ca args (w0.drewN q) (((below_drewN (Below.refl _ _) q).cell (p := ⟨w.heap.size, 0, none⟩) (cell_lt c0)).trans c0) k1 hj hfl ((P0.below (below_drewN (Below.refl _ _) q)).mono (Nat.le_refl _) (by simp)) (A0.below (below_drewN (Below.refl _ _) q) (Nat.le_refl _)) (areB_nm k3) (areB_ln k3) hal)
    generalize jcC fs j args = C at *
    generalize jcA fs j args = JA at *
    have HB0 := Lib.hid hb0
    clear k1 k2 k3 h1 hP hA P0 A0 c0 ej hb0
    go_enter Tryz.func33, Tryz.ntmps33
    go_wp2_with fail
    clear hw0
    refine HS.out.mono ?_; rintro e w1 ⟨rfl, q, rfl⟩
    clear HS
    go_wp2_with fail
    refine (HJ q).out.mono ?_; rintro e w2 ⟨a, ka, rfl, o, b2⟩
    clear HJ
    go_wp2_with fail
    go_ret2
    have hb2 : Below w0.heap.size w0 w2 := ⟨b2.os, b2.tape, b2.output, b2.size, b2.block⟩
    exact ⟨a, ka, by rw [E1.out, E2.out]; rfl, by rw [E2.out]; exact o.mat, HB0.out.trans (hb2.mono hs0)⟩
  · have e1 : jfC fs f args = plC fs f args := if_neg h1
    have e2 : jfA fs f args = [] := if_neg h1
    have hbf : (plC fs f args != 0) = true := by simp [h1]
    have HX : Hid (∀ a W, Below w.heap.size w W → JcM w (jfA fs f args) (jfC fs f args) (.returned (.tuple #[.slice a 0 0, .int .i64 (plC fs f args)])) W) := fun a W hW => ⟨a, 0, by rw [e1, e2]; rfl, by rw [e2]; exact .inl rfl, hW⟩
    have HB0 := Lib.hid hb0
    clear e1 e2 hP hA P0 A0 c0 h1 hb0
    generalize plC fs f args = pc at *
    go_enter Tryz.func33, Tryz.ntmps33
    go_wp2_with fail
    clear hw0
    refine HS.out.mono ?_; rintro e w1 ⟨rfl, q, rfl⟩
    clear HS
    go_wp2_with fail
    go_ret2
    exact HX.out _ _ (HB0.out.trans (((below_drewN (Below.refl _ _) q).alloc (by simp) _).mono hs0))

set_option maxRecDepth 100000 in
set_option maxHeartbeats 6400000 in
theorem sGradientOf (fs : List Fn) (ap : Option Addr) (capp : Nat) (f pick : Int) (aa : Option Addr) (ca : Nat) (args : List Int) (w : World) (hP : Pat w 0 w.heap.size fs ap) (hsz : pgSize fs ≤ 1048576) (hA : At w aa args) (hal : args.length ≤ 1048576) :
    Calls Tryz.prog 31 #[.agg #[.slice ap fs.length capp], .int .i64 f, .int .i64 pick, .slice aa args.length ca] w (LcM w (grL fs f pick args) (grC fs f pick args)) := by
  have hfl : fs.length ≤ 1048576 := by unfold pgSize at hsz; omega
  obtain ⟨w0, hw0⟩ : ∃ w0, w.alloc (.cells #[.slice ap fs.length capp] 31) = w0 := ⟨_, rfl⟩
  have hb0 : Below w.heap.size w w0 := by rw [← hw0]; exact (Below.refl _ _).alloc (Nat.le_refl _) _
  have P0 := (hP.below hb0).mono (Nat.le_refl _) hb0.size
  have A0 := hA.below hb0 (Nat.le_refl _)
  have c0 : w0.cell? ⟨w.heap.size, 0, none⟩ = some (.slice ap fs.length capp) := by rw [← hw0]; simp [go_sem]
  have HS := Lib.hid (sPickedH fs w.heap.size 0 ap capp f pick aa aa ca ca args args w0 c0 P0 hsz A0 hal A0 hal)
  rw [gr_pk] at HS
  have hs0 := hb0.size
  by_cases h1 : grC0 fs f pick args = 0
  · have hpl : plC fs f args = 0 := Classical.byContradiction fun h => by unfold grC0 at h1; rw [if_neg h] at h1; exact h h1
    have hpk : 0 ≤ pick ∧ pick < ((fs.getD f.toNat noFn).outs.len : Int) := Classical.byContradiction fun h => by unfold grC0 at h1; rw [if_pos hpl, if_neg h] at h1; cases h1
    obtain ⟨k1, k2, k3⟩ := plC_known hpl
    have E1 : Hid (grC fs f pick args = jcC fs f.toNat args) := grC_yes h1
    have E2 : Hid (grL fs f pick args = if jcC fs f.toNat args = 0 then (jcA fs f.toNat args).getD pick.toNat [] else []) := by show _ = _; unfold grL; rw [grC_yes h1]
    rw [h1] at HS
    obtain ⟨j, rfl⟩ := Int.eq_ofNat_of_zero_le k2.1
    obtain ⟨k, rfl⟩ := Int.eq_ofNat_of_zero_le hpk.1
    have ej : (j : Int).toNat = j := rfl
    have ek : (k : Int).toNat = k := rfl
    rw [ej] at k3 E1 E2 hpk
    rw [ek] at E2
    have hj : j < fs.length := by omega
    have HLN : Hid (jcC fs j args = 0 → (jcA fs j args).length = (fs.getD j noFn).outs.len) := jcA_len
    have HJ := fun (q : Nat) => Lib.hid (sJacobian fs w.heap.size 0 ap capp j aa ca args (w0.drewN q) (((below_drewN (Below.refl _ _) q).cell (p := ⟨w.heap.size, 0, none⟩) (cell_lt c0)).trans c0) k1 hj hfl ((P0.below (below_drewN (Below.refl _ _) q)).mono (Nat.le_refl _) (by simp)) (A0.below (below_drewN (Below.refl _ _) q) (Nat.le_refl _)) (areB_nm k3) (areB_ln k3) hal)
    generalize grC fs (j : Int) (k : Int) args = GC at *
    generalize grL fs (j : Int) (k : Int) args = GL at *
    generalize jcC fs j args = C at *
    generalize jcA fs j args = JA at *
    generalize (fs.getD j noFn).outs.len = mo at *
    have hk : k < mo := by omega
    have HB0 := Lib.hid hb0
    clear k1 k2 k3 h1 hP hA P0 A0 c0 ej ek hb0 hpl hpk
    go_enter Tryz.func31, Tryz.ntmps31
    go_wp2_with fail
    clear hw0
    refine HS.out.mono ?_; rintro e w1 ⟨rfl, q, rfl⟩
    clear HS
    go_wp2_with fail
    refine (HJ q).out.mono ?_; rintro e w2 ⟨a, ka, rfl, o, b2⟩
    have hb2 : Below w0.heap.size w0 w2 := ⟨b2.os, b2.tape, b2.output, b2.size, b2.block⟩
    have HB2 := Lib.hid (HB0.out.trans (hb2.mono hs0))
    have hs2 := HB2.out.size
    clear HJ b2 hb2
    by_cases hc : C = 0
    · have hbf : (C != 0) = false := by rw [hc]; rfl
      have hln := HLN.out hc
      have HC0 := Lib.hid hc
      obtain ⟨g, A, K, rfl, hM⟩ := o.resolve_left (by intro e; rw [e] at hln; simp at hln; omega)
      rw [hln] at hM ⊢
      have hr0 := hM.cell k hk
      have hrow := hM.row k hk
      have hx2 : GL = JA.getD k [] := by rw [E2.out, if_pos hc]
      rw [← hx2] at hr0 hrow
      obtain ⟨am, ham⟩ : ∃ am, A k = am := ⟨_, rfl⟩
      obtain ⟨km, hkm⟩ : ∃ km, K k = km := ⟨_, rfl⟩
      rw [ham, hkm] at hr0 hrow
      have hO := hrow.at
      have hii : (k : Int) < (mo : Int) := by omega
      clear hM hrow hx2 hc hln HLN ham hkm
      go_wp2_with fail
      go_ret2
      exact ⟨am, km, by rw [E1.out, HC0.out]; rfl, hO, HB2.out⟩
    · have hbf : (C != 0) = true := by simp [hc]
      have HG : Hid (GL = []) := by show _ = _; rw [E2.out, if_neg hc]
      clear hc HLN o
      go_wp2_with fail
      go_ret2
      exact ⟨_, 0, by rw [E1.out, HG.out]; rfl, .inl HG.out, HB2.out.alloc hs2 _⟩
  · have e1 : grC fs f pick args = grC0 fs f pick args := grC_no h1
    have e2 : grL fs f pick args = [] := if_neg (by rw [e1]; exact h1)
    have hbf : (grC0 fs f pick args != 0) = true := by simp [h1]
    have HX : Hid (∀ a W, Below w.heap.size w W → LcM w (grL fs f pick args) (grC fs f pick args) (.returned (.tuple #[.slice a 0 0, .int .i64 (grC0 fs f pick args)])) W) := fun a W hW => ⟨a, 0, by rw [e1, e2]; rfl, .inl e2, hW⟩
    have HB0 := Lib.hid hb0
    clear e1 e2 hP hA P0 A0 c0 h1 hb0
    generalize grC0 fs f pick args = pc at *
    go_enter Tryz.func31, Tryz.ntmps31
    go_wp2_with fail
    clear hw0
    refine HS.out.mono ?_; rintro e w1 ⟨rfl, q, rfl⟩
    clear HS
    go_wp2_with fail
    go_ret2
    exact HX.out _ _ (HB0.out.trans (((below_drewN (Below.refl _ _) q).alloc (by simp) _).mono hs0))

end Go.Proofs.YtoedccgiahegnaaGreat
