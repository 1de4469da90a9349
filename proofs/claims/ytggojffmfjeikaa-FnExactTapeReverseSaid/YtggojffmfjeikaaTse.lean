/- Tapes: the registers for series, by the model. -/
import Derived.Test.YtggojffmfjeikaaTar
namespace Go.Proofs.Ytggojffmfjeikaa
open Go.RowKit
set_option linter.unusedVariables false

def scl4 (b : List Int) (c : Int) : List Int := tab (fun i => tms (b.getD i 0) c) b.length
theorem scl4_len (b : List Int) (c : Int) : (scl4 b c).length = b.length := tab_len _ _
theorem scl4_nums (b : List Int) (c : Int) : Nums (scl4 b c) := tab_nms _ fun _ => tms_bd _ _
theorem addl_nums4 (a b : List Int) : Nums (addl a b) := tab_nms _ fun _ => pls_bd _ _
theorem divl_nums4 (a b : List Int) : Nums (divl a b) := dvs_nms _ _ _ _
theorem cstl_nums {x : Int} {n : Nat} (h : 0 ≤ x ∧ x < 1000003) : Nums (cstl x n) := by
  intro y hy
  unfold cstl at hy
  rcases List.mem_or_eq_of_mem_set hy with h1 | h1
  · rw [(List.mem_replicate.1 h1).2]; omega
  · rw [h1]; exact h

set_option maxRecDepth 100000 in
set_option maxHeartbeats 1600000 in
theorem sScale4 (a : Option Addr) (ca : Nat) (l : List Int) (c : Int) (w : World) (ha : At w a l) (hm : l.length ≤ 1048576) (hn : Nums l) (hc : 0 ≤ c ∧ c < 1000003) :
    Calls Try.prog 115 #[.slice a l.length ca, .int .i64 c] w (Fresh w (scl4 l c)) := by
  obtain ⟨i0, hi, hz0, hz1, hz2⟩ := info_parts info64
  have hB0 := (Below.refl w.heap.size w).alloc (Nat.le_refl _) (.cells #[] 2)
  have hO0 := own_none w w.heap.size (Nat.le_refl _)
  go_enter Try.func115, Try.ntmps115
  go_wp2
  go_loopw [5, 6] (fun v i wr => ∃ (k g cap : Nat) (xs : List Int), k ≤ l.length ∧ i = .int .i64 k ∧ v = .slice (some ⟨g, 0, none⟩) xs.length cap ∧ Hid (xs = tab (fun i => tms (l.getD i 0) c) k) ∧ Own w.heap.size wr g cap xs ∧ Below w.heap.size w wr) (fun _ i _ => l.length - (intOf i).toNat)
  case atStart => exact ⟨0, w.heap.size, 0, [], Nat.zero_le _, rfl, rfl, rfl, hO0, hB0⟩
  case round =>
    obtain ⟨k, g, cap, xs, hk, rfl, rfl, hxs, ho, hw⟩ := hrel
    by_cases hlt : k < l.length
    · obtain ⟨b1, o1, rfl, hbl1, hc1⟩ := (ha.resolve_left (by intro e; rw [e] at hlt; simp at hlt))
      have h1 : wr.cell? ⟨b1, o1 + k, none⟩ = some (.int .i64 (l.getD k 0)) := (hw.cell (p := ⟨b1, o1 + k, none⟩) hbl1).trans (hc1 k hlt)
      have r1 := hn.at k
      have hs2 : Hid (xs ++ [tms (l.getD k 0) c] = tab (fun i => tms (l.getD i 0) c) (k + 1)) := by rw [tab_succ, hxs.out]; rfl
      have hxl : xs.length ≤ k := by rw [hxs.out, tab_len]; exact Nat.le_refl _
      have hi1 : (k : Int) < (l.length : Int) := by omega
      have ho2 : wr.ownsRow w.heap.size 2 1 (.slice (some ⟨g, 0, none⟩) xs.length cap) xs.length (xs.map (Value.int .i64)) := ho
      have hsz := hw.size
      have hgl := ho.base
      clear hc1 ha hxs hB0 hO0 ho
      generalize l.getD k 0 = x at h1 r1 hs2
      go_wp2_with fail
      refine (sTimes x c (by omega) (by omega) _).mono ?_; rintro e w' ⟨rfl, rfl⟩
      generalize tms x c = y at hs2
      go_wp2_with (at_builtin; refine wpList_append_lies _ rfl _ _ _ rfl w.heap.size 2 i0 _ 1 8 Try.underlying37 hi hz0 hz1 hz2 rfl (by omega) (.slice (some ⟨g, 0, none⟩) xs.length cap) xs.length (xs.map (Value.int .i64)) rfl (ho2.alloc _) ⟨wr.heap.size, 0, none⟩ 1 1 [.int .i64 y] rfl rfl (World.news_of_block (cs := #[.int .i64 y]) (t := 2) (fr := (0, 0)) (heap_alloc_new wr _)) (by simp [Value.oneCell']) (by omega) (by unfold maxLen; omega) (by omega) (by simp; omega) (wr.heap.size + 1) (by simp) ?_; intro gg cc w1 hown1 hgrow hat hlt1)
      have hw2 : Below w.heap.size w w1 := (hw.alloc hsz (.cells #[.int .i64 y] 2)).grown hgrow (by simp; omega) (by intro q hq; simp [Value.ownBlock] at hq; omega)
      have ho3 : Own w.heap.size w1 gg cc (xs ++ [y]) := own_appended hown1
      clear hgrow hown1 ho2
      go_roundw
      case rel => exact ⟨k + 1, gg, cc, xs ++ [y], by omega, by go_num, by simp, hs2, ho3, hw2⟩
      case measure => simp [intOf]; omega
    · have hkk : k = l.length := by omega
      subst hkk
      have hfin : xs = scl4 l c := hxs.out
      subst hfin
      go_wp2
      go_ret
      exact ⟨g, cap, rfl, ho, hw⟩

/-- a difference, as the model makes it -/
def sub4 (a b : List Int) : List Int := addl a (scl4 b 1000002)
set_option maxRecDepth 100000 in
set_option maxHeartbeats 1600000 in
theorem sSub4 (a b : Option Addr) (ca cb : Nat) (l m : List Int) (w : World) (ha : At w a l) (hb : At w b m) (hr : Nums l) (hr2 : Nums m) (hlm : Hid (m.length = l.length)) (hl : l.length ≤ 1048576) :
    Calls Try.prog 113 #[.slice a l.length ca, .slice b m.length cb] w (Fresh w (sub4 l m)) := by
  have hml : m.length ≤ 1048576 := by rw [hlm.out]; exact hl
  have HL : Hid ((scl4 m 1000002).length = l.length) := by show _ = _; rw [scl4_len]; exact hlm.out
  have HR := Lib.hid hr.rng
  go_enter Try.func113, Try.ntmps113
  go_wp2_with fail
  refine (sScale4 b cb m 1000002 w hb hml hr2 (by omega)).mono ?_; rintro e w1 ⟨g1, c1, rfl, o1, b1⟩
  go_wp2_with fail
  refine (sAdd a _ ca c1 l (scl4 m 1000002) _ (ha.below b1 (Nat.le_refl _)) o1.at HR.out (scl4_nums _ _).rng HL hl).mono ?_; rintro e w2 ⟨g2, c2, rfl, o2, b2⟩
  go_wp2_with fail
  go_ret
  exact ⟨g2, c2, rfl, o2.mono b1.size, b1.trans (b2.mono b1.size)⟩

/-- what an instruction writes, for rows of n numbers -/
def rowS (x : In4) (als rs : List (List Int)) (n : Nat) : Option (List Int) :=
  if x.op = 1 then some (als.getD x.num.toNat [])
  else if x.op = 2 then some (cstl x.num n)
  else if x.op = 3 then some (addl (rs.getD x.a.toNat []) (rs.getD x.b.toNat []))
  else if x.op = 4 then some (sub4 (rs.getD x.a.toNat []) (rs.getD x.b.toNat []))
  else if x.op = 5 then some (mull (rs.getD x.a.toNat []) (rs.getD x.b.toNat []))
  else if x.op = 7 then some (scl4 (rs.getD x.a.toNat []) 1000002)
  else if (rs.getD x.b.toNat []).getD 0 0 = 0 then none else some (divl (rs.getD x.a.toNat []) (rs.getD x.b.toNat []))
/-- the registers behind k instructions -/
def runS (t : Tp) (als : List (List Int)) (n : Nat) : Nat → Option (List (List Int))
  | 0 => some []
  | k + 1 => (runS t als n k).bind fun rs => (rowS (t.code.getD k no4) als rs n).map fun r => rs ++ [r]
def RowsOk (n : Nat) (ls : List (List Int)) : Prop := ∀ i, i < ls.length → (ls.getD i []).length = n ∧ Nums (ls.getD i [])
theorem rowsOk_snoc {n : Nat} {ls : List (List Int)} {r : List Int} (h : RowsOk n ls) (h1 : r.length = n) (h2 : Nums r) : RowsOk n (ls ++ [r]) := by
  intro i hi
  by_cases hik : i < ls.length
  · rw [List.getD_eq_getElem?_getD, List.getElem?_append_left hik, ← List.getD_eq_getElem?_getD]; exact h i hik
  · have : i = ls.length := by simp at hi; omega
    subst this
    rw [List.getD_eq_getElem?_getD, List.getElem?_append_right (by omega), Nat.sub_self]; exact ⟨h1, h2⟩
theorem runS_none {t : Tp} {als : List (List Int)} {n k : Nat} (h : runS t als n k = none) : ∀ m, k ≤ m → runS t als n m = none := by
  intro m hm
  induction m with
  | zero => have : k = 0 := by omega
            rw [← this]; exact h
  | succ m ih =>
    by_cases hk : k = m + 1
    · rw [← hk]; exact h
    · rw [runS, ih (by omega)]; rfl
theorem row6 (a b m : Int) (als rs : List (List Int)) (n : Nat) : rowS ⟨6, a, b, m⟩ als rs n = if (rs.getD b.toNat []).getD 0 0 = 0 then none else some (divl (rs.getD a.toNat []) (rs.getD b.toNat [])) := by
  rw [rowS, if_neg (by simp), if_neg (by simp), if_neg (by simp), if_neg (by simp), if_neg (by simp), if_neg (by simp)]
theorem ins_op {x : In4} {i : Nat} {n : Int} (h : insB x i n = true) : 1 ≤ x.op ∧ x.op ≤ 7 := by
  apply Decidable.byContradiction
  intro hn
  rw [insB_other (by omega)] at h
  cases h
/-- what an instruction that is valid behind so many others reads -/
theorem ins_reads {x : In4} {i : Nat} {inputs : Int} (h : insB x i inputs = true) :
    (x.op = 1 ∧ 0 ≤ x.num ∧ x.num < inputs) ∨ (x.op = 2 ∧ 0 ≤ x.num ∧ x.num < 1000003) ∨ ((x.op = 3 ∨ x.op = 4 ∨ x.op = 5 ∨ x.op = 6) ∧ (0 ≤ x.a ∧ x.a < i) ∧ (0 ≤ x.b ∧ x.b < i)) ∨ (x.op = 7 ∧ (0 ≤ x.a ∧ x.a < i)) := by
  have hop := ins_op h
  by_cases h1 : x.op = 1
  · rw [insB_in h1] at h; simp only [Bool.and_eq_true] at h; exact .inl ⟨h1, ixB_t h.2⟩
  · by_cases h2 : x.op = 2
    · rw [insB_num h2] at h; simp only [Bool.and_eq_true] at h; exact .inr (.inl ⟨h2, ixB_t h.2⟩)
    · by_cases h7 : x.op = 7
      · rw [insB_neg h7] at h; simp only [Bool.and_eq_true] at h; exact .inr (.inr (.inr ⟨h7, ixB_t h.2⟩))
      · rw [insB_two (by omega)] at h; simp only [Bool.and_eq_true] at h; exact .inr (.inr (.inl ⟨by omega, ixB_t h.2.1, ixB_t h.2.2⟩))
theorem runS_ok {t : Tp} {als : List (List Int)} {n : Nat} (ht : Okt t) (hals : RowsOk n als) (hal : t.inputs ≤ als.length) : ∀ {k rs}, k ≤ t.code.length → runS t als n k = some rs → rs.length = k ∧ RowsOk n rs := by
  intro k
  induction k with
  | zero => intro rs _ h; cases h; exact ⟨rfl, fun i hi => by simp at hi⟩
  | succ k ih =>
    intro rs hk h
    rw [runS] at h
    obtain ⟨rs', h1, h2⟩ := Option.bind_eq_some_iff.1 h
    obtain ⟨r, h3, rfl⟩ := Option.map_eq_some_iff.1 h2
    obtain ⟨hl, hok⟩ := ih (by omega) h1
    refine ⟨by simp [hl], ?_⟩
    have hx := ins_reads (ht.code k (by omega))
    generalize t.code.getD k no4 = x at h3 hx
    have ga : ∀ q : Int, 0 ≤ q ∧ q < (k : Int) → (rs'.getD q.toNat []).length = n ∧ Nums (rs'.getD q.toNat []) := fun q hq => hok _ (by omega)
    rcases hx with ⟨e, hn⟩ | ⟨e, hn⟩ | ⟨e, ha, hb⟩ | ⟨e, ha⟩
    · rw [rowS, if_pos e] at h3; cases h3
      have := hals x.num.toNat (by omega)
      exact rowsOk_snoc hok this.1 this.2
    · rw [rowS, if_neg (by omega), if_pos e] at h3; cases h3
      exact rowsOk_snoc hok (cstl_len _ _) (cstl_nums hn)
    · rcases e with e | e | e | e
      · rw [rowS, if_neg (by omega), if_neg (by omega), if_pos e] at h3; cases h3
        exact rowsOk_snoc hok ((addl_len _ _).trans (ga _ ha).1) (addl_nums4 _ _)
      · rw [rowS, if_neg (by omega), if_neg (by omega), if_neg (by omega), if_pos e] at h3; cases h3
        exact rowsOk_snoc hok ((addl_len _ _).trans (ga _ ha).1) (addl_nums4 _ _)
      · rw [rowS, if_neg (by omega), if_neg (by omega), if_neg (by omega), if_neg (by omega), if_pos e] at h3; cases h3
        exact rowsOk_snoc hok ((mull_len _ _).trans (ga _ ha).1) (mull_nms _ _)
      · rw [rowS, if_neg (by omega), if_neg (by omega), if_neg (by omega), if_neg (by omega), if_neg (by omega), if_neg (by omega)] at h3
        split at h3
        · cases h3
        · cases h3
          exact rowsOk_snoc hok ((divl_len _ _).trans (ga _ ha).1) (divl_nums4 _ _)
    · rw [rowS, if_neg (by omega), if_neg (by omega), if_neg (by omega), if_neg (by omega), if_neg (by omega), if_pos e] at h3; cases h3
      exact rowsOk_snoc hok ((scl4_len _ _).trans (ga _ ha).1) (scl4_nums _ _)

/-- the model's answer -/
def SerRes (w : World) (o : Option (List (List Int))) (e : Ending) (w' : World) : Prop :=
  (o = none ∧ (∃ g, e = .returned (.tuple #[.slice (some ⟨g, 0, none⟩) 0 0, .bool false])) ∧ Below w.heap.size w w') ∨
  (∃ rs g cap, o = some rs ∧ e = .returned (.tuple #[.slice (some ⟨g, 0, none⟩) rs.length cap, .bool true]) ∧ Rws w' w.heap.size g cap rs ∧ Below w.heap.size w w')

set_option maxRecDepth 100000 in
set_option maxHeartbeats 12800000 in
theorem sSeries (t : Tp) (bt : Nat) (ac : Option Addr) (cc : Nat) (ag : Option Addr) (cg : Nat) (ao : Option Addr) (co : Nat) (La ga capa n : Nat) (als : List (List Int)) (w : World) (hC : Tcl w bt t ac cc ag cg ao co) (hP : Tat w 0 w.heap.size t ac ag ao) (ht : Okt t)
    (hA : Rws w La ga capa als) (hals : RowsOk n als) (hal : t.inputs ≤ als.length) (hall : als.length ≤ 1048576) (hn1 : 1 ≤ n) (hn2 : n ≤ 13) :
    Calls Try.prog 98 #[.pointer (some ⟨bt, 0, none⟩), .slice (some ⟨ga, 0, none⟩) als.length capa, .int .i64 n] w (SerRes w (runS t als n t.code.length)) := by
  obtain ⟨i0, hi, hz0, hz1, hz2⟩ := info_parts infoRow
  have hB0 := (Below.refl w.heap.size w).alloc (Nat.le_refl _) (.cells #[] 37)
  have hO0 := rws_none w w.heap.size (Nat.le_refl _)
  have hct := ht.size
  have HI := fun i hi => Lib.hid (ht.code i hi)
  have HRK := fun {k rs} (hk : k ≤ t.code.length) (h : runS t als n k = some rs) => Lib.hid (runS_ok ht hals hal hk h)
  go_enter Try.func98, Try.ntmps98
  go_wp2_with fail
  go_loopw [8, 9] (fun v q wr => ∃ (k g cap : Nat) (rs : List (List Int)), k ≤ t.code.length ∧ q = .int .i64 k ∧ v = .slice (some ⟨g, 0, none⟩) rs.length cap ∧ Hid (runS t als n k = some rs) ∧ Rws wr w.heap.size g cap rs ∧ Below w.heap.size w wr) (fun _ q _ => t.code.length - (intOf q).toNat)
  case atStart => exact ⟨0, w.heap.size, 0, [], Nat.zero_le _, rfl, rfl, rfl, hO0, hB0⟩
  case round =>
    obtain ⟨k, g, cap, rs, hk, rfl, rfl, HX, ho, hw⟩ := hrel
    clear hO0 hB0
    have hz := hw.size
    have hgb := ho.base
    obtain ⟨c0, c1, c2, c3⟩ := hC.next hw
    by_cases hlt : k < t.code.length
    · have hii : (k : Int) < (t.code.length : Int) := by omega
      obtain ⟨bf, of, rfl, hbB, hrow⟩ := ((hP.code.below hw).resolve_left (by intro e; rw [e] at hlt; simp at hlt))
      obtain ⟨hr, f0, f1, f2, f3⟩ := hrow k hlt
      have HK := HRK (by omega) HX.out
      have hx := ins_reads (HI k hlt).out
      have HN : Hid (∀ r, rowS (t.code.getD k no4) als rs n = some r → runS t als n (k + 1) = some (rs ++ [r])) := fun r hr => by rw [runS, HX.out]; show Option.map _ _ = _; rw [hr]; rfl
      have HZ : Hid (rowS (t.code.getD k no4) als rs n = none → runS t als n t.code.length = none) := fun hr => runS_none (k := k + 1) (by rw [runS, HX.out]; show Option.map _ _ = _; rw [hr]; rfl) _ (by omega)
      have hA1 := hA.next hw
      have hgl := hA1.base
      have hrl : rs.length ≤ 3200 := by rw [HK.out.1]; omega
      clear hrow hr HX hP HI HRK hC hA
      generalize t.code.getD k no4 = x at *
      obtain ⟨o, a4, b4, m4⟩ := x
      simp only at *
      have hbw : ∀ (W : World) o, Below W.heap.size W (W.alloc o) := fun W o => (Below.refl _ _).alloc (Nat.le_refl _) o
      obtain ⟨WX, hWX⟩ : ∃ WX, WX = (wr.alloc (.cells #[.int .i64 o, .int .i64 a4, .int .i64 b4, .int .i64 m4] 85)).alloc (.cells #[] 2) := ⟨_, rfl⟩
      have hwx : Below wr.heap.size wr WX := by rw [hWX]; exact (hbw _ _).alloc (by simp) _
      have HWW := Lib.hid (hw.trans (hwx.mono hz))
      have HOX := Lib.hid (ho.next hwx)
      have HAX := Lib.hid (hA1.next hwx)
      have HO0 := Lib.hid ho
      have HA0 := Lib.hid hA1
      have hsx : WX.heap.size = wr.heap.size + 1 + 1 := by rw [hWX]; simp
      have xc0 : WX.cell? ⟨wr.heap.size, 0, none⟩ = some (.int .i64 o) := by rw [hWX]; simp [go_sem]
      have xc1 : WX.cell? ⟨wr.heap.size, 1, none⟩ = some (.int .i64 a4) := by rw [hWX]; simp [go_sem]
      have xc2 : WX.cell? ⟨wr.heap.size, 2, none⟩ = some (.int .i64 b4) := by rw [hWX]; simp [go_sem]
      have xc3 : WX.cell? ⟨wr.heap.size, 3, none⟩ = some (.int .i64 m4) := by rw [hWX]; simp [go_sem]
      clear hA1 hw ho
      rcases hx with ⟨rfl, hn⟩ | ⟨rfl, hn⟩ | ⟨hop, ha, hb⟩ | ⟨rfl, ha⟩
      · obtain ⟨q, rfl⟩ : ∃ q : Nat, m4 = (q : Int) := ⟨m4.toNat, by omega⟩
        have hq : q < als.length := by omega
        have hqi : (q : Int) < (als.length : Int) := by omega
        obtain ⟨av, cv, f5, hrw⟩ := HA0.out.get hq
        have HRL := Lib.hid (hals q hq).1
        have hw2 := HWW.out
        have ho2 := HOX.out
        have hav := hrw.at.below hwx (Nat.le_refl _)
        have HS : Hid (rowS ⟨1, a4, b4, (q : Int)⟩ als rs n = some (als.getD q [])) := by show _ = _; simp [rowS]
        clear hals hrw HAX HOX HWW HK HO0 HA0
        have HN2 := Lib.hid (HN.out _ HS.out)
        clear HN HZ
        have hrl1 : 1 ≤ (als.getD q []).length := by rw [HRL.out]; exact hn1
        have hrl2 : (als.getD q []).length ≤ 13 := by rw [HRL.out]; exact hn2
        generalize (als.getD q []) = r at *
        go_wp2_with fail
        try rw [← hWX]
        clear hWX xc0 xc1 xc2 xc3
        refine (sOwn _ _ r _ hav hrl1 (by omega)).mono ?_; rintro e w3 ⟨g3, c3', rfl, o3, b3⟩
        have hw3 := hw2.trans (b3.mono hw2.size)
        have ho3 := ho2.next b3
        have hg3 := o3.base
        have hgb2 := ho2.base
        have HR := Lib.hid (o3.rw (g0 := g) (by omega))
        obtain ⟨vs, hvs, hall'⟩ := ho3
        have HVL : Hid (vs.length = rs.length) := by have := hvs.1; show _ = _; omega
        have HV := Lib.hid hall'
        have hz3 := hw3.size
        clear b3 o3 ho2 hw2 hall' hav HRL
        go_wp2_with (at_builtin; refine wpList_append_lies _ rfl _ _ _ rfl w.heap.size 37 i0 _ 1 24 Try.underlying97 hi hz0 hz1 hz2 rfl (by omega) (.slice (some ⟨g, 0, none⟩) rs.length cap) rs.length vs rfl (hvs.alloc _) ⟨w3.heap.size, 0, none⟩ 1 1 [.slice (some ⟨g3, 0, none⟩) r.length c3'] rfl rfl (World.news_of_block (cs := #[.slice (some ⟨g3, 0, none⟩) r.length c3']) (t := 37) (fr := (0, 0)) (heap_alloc_new w3 _)) (by simp [Value.oneCell']) (by omega) (by unfold maxLen; omega) (by omega) (by simp; omega) (w3.heap.size + 1) (by simp) ?_; intro gg cx w4 hown1 hgrow hat hlt1)
        have hw4 := (hw3.alloc hz3 (.cells #[.slice (some ⟨g3, 0, none⟩) r.length c3'] 37)).grown hgrow (by simp; omega) (by intro q hq; simp [Value.ownBlock] at hq; omega)
        have hrs : Rws w4 w.heap.size gg cx (rs ++ [r]) := rws_push (w := w3.alloc (.cells #[.slice (some ⟨g3, 0, none⟩) r.length c3'] 37)) (fun i hi => by obtain ⟨ai, ci, h3, h4⟩ := HV.out i hi; exact ⟨ai, ci, h3, h4.next (hbw _ _)⟩) HVL.out (HR.out.next (hbw _ _)) hown1 hgrow (gg_of hat (by simp))
        clear hown1 hgrow hat HR HV HVL hvs
        go_wp2_with fail
        go_roundw
        case rel => exact ⟨k + 1, gg, cx, rs ++ [r], by omega, by go_num, by simp, HN2, hrs, hw4⟩
        case measure => simp [intOf]; omega
      · have HRL : Hid ((cstl m4 n).length = n) := cstl_len _ _
        have HS : Hid (rowS ⟨2, a4, b4, m4⟩ als rs n = some (cstl m4 n)) := by show _ = _; simp [rowS]
        clear hals HAX HK
        go_wp2_with fail
        try rw [← hWX]
        clear hWX xc0 xc1 xc2 xc3
        refine (sConst m4 n _ (by omega)).mono ?_; rintro e w2 ⟨g2, k2, rfl, o2, b2⟩
        have hw2 := HWW.out.trans (b2.mono HWW.out.size)
        have ho2 := HOX.out.next b2
        have hav := o2.at
        clear o2 b2 HWW HOX
        have HN2 := Lib.hid (HN.out _ HS.out)
        clear HN HZ
        have hrl1 : 1 ≤ (cstl m4 n).length := by rw [HRL.out]; exact hn1
        have hrl2 : (cstl m4 n).length ≤ 13 := by rw [HRL.out]; exact hn2
        generalize (cstl m4 n) = r at *
        go_wp2_with fail
        refine (sOwn _ _ r _ hav hrl1 (by omega)).mono ?_; rintro e w3 ⟨g3, c3', rfl, o3, b3⟩
        have hw3 := hw2.trans (b3.mono hw2.size)
        have ho3 := ho2.next b3
        have hg3 := o3.base
        have hgb2 := ho2.base
        have HR := Lib.hid (o3.rw (g0 := g) (by omega))
        obtain ⟨vs, hvs, hall'⟩ := ho3
        have HVL : Hid (vs.length = rs.length) := by have := hvs.1; show _ = _; omega
        have HV := Lib.hid hall'
        have hz3 := hw3.size
        clear b3 o3 ho2 hw2 hall' hav HRL
        go_wp2_with (at_builtin; refine wpList_append_lies _ rfl _ _ _ rfl w.heap.size 37 i0 _ 1 24 Try.underlying97 hi hz0 hz1 hz2 rfl (by omega) (.slice (some ⟨g, 0, none⟩) rs.length cap) rs.length vs rfl (hvs.alloc _) ⟨w3.heap.size, 0, none⟩ 1 1 [.slice (some ⟨g3, 0, none⟩) r.length c3'] rfl rfl (World.news_of_block (cs := #[.slice (some ⟨g3, 0, none⟩) r.length c3']) (t := 37) (fr := (0, 0)) (heap_alloc_new w3 _)) (by simp [Value.oneCell']) (by omega) (by unfold maxLen; omega) (by omega) (by simp; omega) (w3.heap.size + 1) (by simp) ?_; intro gg cx w4 hown1 hgrow hat hlt1)
        have hw4 := (hw3.alloc hz3 (.cells #[.slice (some ⟨g3, 0, none⟩) r.length c3'] 37)).grown hgrow (by simp; omega) (by intro q hq; simp [Value.ownBlock] at hq; omega)
        have hrs : Rws w4 w.heap.size gg cx (rs ++ [r]) := rws_push (w := w3.alloc (.cells #[.slice (some ⟨g3, 0, none⟩) r.length c3'] 37)) (fun i hi => by obtain ⟨ai, ci, h3, h4⟩ := HV.out i hi; exact ⟨ai, ci, h3, h4.next (hbw _ _)⟩) HVL.out (HR.out.next (hbw _ _)) hown1 hgrow (gg_of hat (by simp))
        clear hown1 hgrow hat HR HV HVL hvs
        go_wp2_with fail
        go_roundw
        case rel => exact ⟨k + 1, gg, cx, rs ++ [r], by omega, by go_num, by simp, HN2, hrs, hw4⟩
        case measure => simp [intOf]; omega
      · obtain ⟨p, rfl⟩ : ∃ q : Nat, a4 = (q : Int) := ⟨a4.toNat, by omega⟩
        obtain ⟨q, rfl⟩ : ∃ q : Nat, b4 = (q : Int) := ⟨b4.toNat, by omega⟩
        have hkl : rs.length = k := HK.out.1
        have hp : p < rs.length := by omega
        have hq : q < rs.length := by omega
        have hpi : (p : Int) < (rs.length : Int) := by omega
        have hqi : (q : Int) < (rs.length : Int) := by omega
        obtain ⟨ap, cp, fp, hrp⟩ := HOX.out.get hp
        obtain ⟨aq, cq, fq, hrq⟩ := HOX.out.get hq
        have hpk := HK.out.2 p hp
        have hqk := HK.out.2 q hq
        have hap := Lib.hid hrp.at
        have haq := Lib.hid hrq.at
        have NP := Lib.hid hpk.2
        have NQ := Lib.hid hqk.2
        have LP := Lib.hid hpk.1
        have HLM : Hid ((rs.getD q []).length = (rs.getD p []).length) := by show _ = _; rw [hpk.1, hqk.1]
        have hl1 : (rs.getD p []).length ≤ 13 := by rw [hpk.1]; exact hn2
        have hl0 : 1 ≤ (rs.getD p []).length := by rw [hpk.1]; exact hn1
        have hm1 : (rs.getD q []).length ≤ 13 := by rw [hqk.1]; exact hn2
        have hm0 : 1 ≤ (rs.getD q []).length := by rw [hqk.1]; exact hn1
        have hq6 := hq
        clear hals HAX HK hkl hpk hqk ha hb hp hq
        have EP : Hid (rs.getD (p : Int).toNat [] = rs.getD p []) := by show _ = _; rw [Int.toNat_natCast]
        have EQ : Hid (rs.getD (q : Int).toNat [] = rs.getD q []) := by show _ = _; rw [Int.toNat_natCast]
        rcases hop with rfl | rfl | rfl | rfl
        · have HS : Hid (rowS ⟨3, (p : Int), (q : Int), m4⟩ als rs n = some (addl (rs.getD p []) (rs.getD q []))) := by show _ = _; simp [rowS]
          have HRL : Hid ((addl (rs.getD p []) (rs.getD q [])).length = n) := by show _ = _; rw [addl_len]; exact LP.out
          generalize rs.getD p [] = lp at *
          generalize rs.getD q [] = lq at *
          go_wp2_with fail
          try rw [← hWX]
          clear hWX
          go_still_tail 10, (by kernel_rfl)
          change wpList _ _ _ _ _ WX.drew
          have hdw : Below WX.heap.size WX WX.drew := ⟨rfl, rfl, rfl, Nat.le_refl _, fun _ _ => rfl⟩
          generalize WX.drew = WD at hdw ⊢
          clear xc0 xc1 xc2 xc3 fp fq
          go_wp2_with fail
          refine (sAdd _ _ _ _ lp lq _ (hap.out.below hdw (Nat.le_refl _)) (haq.out.below hdw (Nat.le_refl _)) NP.out.rng NQ.out.rng HLM (by omega)).mono ?_; rintro e w2 ⟨g2, k2, rfl, o2, b2⟩
          have hwd := HWW.out.trans (hdw.mono HWW.out.size)
          have hw2 := hwd.trans (b2.mono hwd.size)
          have ho2 := (HOX.out.next hdw).next b2
          have hav := o2.at
          clear o2 b2 HWW HOX hwd
          have HN2 := Lib.hid (HN.out _ HS.out)
          clear HN HZ
          have hrl1 : 1 ≤ (addl lp lq).length := by rw [HRL.out]; exact hn1
          have hrl2 : (addl lp lq).length ≤ 13 := by rw [HRL.out]; exact hn2
          generalize (addl lp lq) = r at *
          go_wp2_with fail
          refine (sOwn _ _ r _ hav hrl1 (by omega)).mono ?_; rintro e w3 ⟨g3, c3', rfl, o3, b3⟩
          have hw3 := hw2.trans (b3.mono hw2.size)
          have ho3 := ho2.next b3
          have hg3 := o3.base
          have hgb2 := ho2.base
          have HR := Lib.hid (o3.rw (g0 := g) (by omega))
          obtain ⟨vs, hvs, hall'⟩ := ho3
          have HVL : Hid (vs.length = rs.length) := by have := hvs.1; show _ = _; omega
          have HV := Lib.hid hall'
          have hz3 := hw3.size
          clear b3 o3 ho2 hw2 hall' hav HRL
          go_wp2_with (at_builtin; refine wpList_append_lies _ rfl _ _ _ rfl w.heap.size 37 i0 _ 1 24 Try.underlying97 hi hz0 hz1 hz2 rfl (by omega) (.slice (some ⟨g, 0, none⟩) rs.length cap) rs.length vs rfl (hvs.alloc _) ⟨w3.heap.size, 0, none⟩ 1 1 [.slice (some ⟨g3, 0, none⟩) r.length c3'] rfl rfl (World.news_of_block (cs := #[.slice (some ⟨g3, 0, none⟩) r.length c3']) (t := 37) (fr := (0, 0)) (heap_alloc_new w3 _)) (by simp [Value.oneCell']) (by omega) (by unfold maxLen; omega) (by omega) (by simp; omega) (w3.heap.size + 1) (by simp) ?_; intro gg cx w4 hown1 hgrow hat hlt1)
          have hw4 := (hw3.alloc hz3 (.cells #[.slice (some ⟨g3, 0, none⟩) r.length c3'] 37)).grown hgrow (by simp; omega) (by intro q hq; simp [Value.ownBlock] at hq; omega)
          have hrs : Rws w4 w.heap.size gg cx (rs ++ [r]) := rws_push (w := w3.alloc (.cells #[.slice (some ⟨g3, 0, none⟩) r.length c3'] 37)) (fun i hi => by obtain ⟨ai, ci, h3, h4⟩ := HV.out i hi; exact ⟨ai, ci, h3, h4.next (hbw _ _)⟩) HVL.out (HR.out.next (hbw _ _)) hown1 hgrow (gg_of hat (by simp))
          clear hown1 hgrow hat HR HV HVL hvs
          go_wp2_with fail
          go_roundw
          case rel => exact ⟨k + 1, gg, cx, rs ++ [r], by omega, by go_num, by simp, HN2, hrs, hw4⟩
          case measure => simp [intOf]; omega
        · have HS : Hid (rowS ⟨4, (p : Int), (q : Int), m4⟩ als rs n = some (sub4 (rs.getD p []) (rs.getD q []))) := by show _ = _; simp [rowS]
          have HRL : Hid ((sub4 (rs.getD p []) (rs.getD q [])).length = n) := by show _ = _; rw [sub4, addl_len]; exact LP.out
          generalize rs.getD p [] = lp at *
          generalize rs.getD q [] = lq at *
          go_wp2_with fail
          try rw [← hWX]
          clear hWX
          go_still_tail 10, (by kernel_rfl)
          change wpList _ _ _ _ _ WX.drew
          have hdw : Below WX.heap.size WX WX.drew := ⟨rfl, rfl, rfl, Nat.le_refl _, fun _ _ => rfl⟩
          generalize WX.drew = WD at hdw ⊢
          clear xc0 xc1 xc2 xc3 fp fq
          go_wp2_with fail
          refine (sSub4 _ _ _ _ lp lq _ (hap.out.below hdw (Nat.le_refl _)) (haq.out.below hdw (Nat.le_refl _)) NP.out NQ.out HLM (by omega)).mono ?_; rintro e w2 ⟨g2, k2, rfl, o2, b2⟩
          have hwd := HWW.out.trans (hdw.mono HWW.out.size)
          have hw2 := hwd.trans (b2.mono hwd.size)
          have ho2 := (HOX.out.next hdw).next b2
          have hav := o2.at
          clear o2 b2 HWW HOX hwd
          have HN2 := Lib.hid (HN.out _ HS.out)
          clear HN HZ
          have hrl1 : 1 ≤ (sub4 lp lq).length := by rw [HRL.out]; exact hn1
          have hrl2 : (sub4 lp lq).length ≤ 13 := by rw [HRL.out]; exact hn2
          generalize (sub4 lp lq) = r at *
          go_wp2_with fail
          refine (sOwn _ _ r _ hav hrl1 (by omega)).mono ?_; rintro e w3 ⟨g3, c3', rfl, o3, b3⟩
          have hw3 := hw2.trans (b3.mono hw2.size)
          have ho3 := ho2.next b3
          have hg3 := o3.base
          have hgb2 := ho2.base
          have HR := Lib.hid (o3.rw (g0 := g) (by omega))
          obtain ⟨vs, hvs, hall'⟩ := ho3
          have HVL : Hid (vs.length = rs.length) := by have := hvs.1; show _ = _; omega
          have HV := Lib.hid hall'
          have hz3 := hw3.size
          clear b3 o3 ho2 hw2 hall' hav HRL
          go_wp2_with (at_builtin; refine wpList_append_lies _ rfl _ _ _ rfl w.heap.size 37 i0 _ 1 24 Try.underlying97 hi hz0 hz1 hz2 rfl (by omega) (.slice (some ⟨g, 0, none⟩) rs.length cap) rs.length vs rfl (hvs.alloc _) ⟨w3.heap.size, 0, none⟩ 1 1 [.slice (some ⟨g3, 0, none⟩) r.length c3'] rfl rfl (World.news_of_block (cs := #[.slice (some ⟨g3, 0, none⟩) r.length c3']) (t := 37) (fr := (0, 0)) (heap_alloc_new w3 _)) (by simp [Value.oneCell']) (by omega) (by unfold maxLen; omega) (by omega) (by simp; omega) (w3.heap.size + 1) (by simp) ?_; intro gg cx w4 hown1 hgrow hat hlt1)
          have hw4 := (hw3.alloc hz3 (.cells #[.slice (some ⟨g3, 0, none⟩) r.length c3'] 37)).grown hgrow (by simp; omega) (by intro q hq; simp [Value.ownBlock] at hq; omega)
          have hrs : Rws w4 w.heap.size gg cx (rs ++ [r]) := rws_push (w := w3.alloc (.cells #[.slice (some ⟨g3, 0, none⟩) r.length c3'] 37)) (fun i hi => by obtain ⟨ai, ci, h3, h4⟩ := HV.out i hi; exact ⟨ai, ci, h3, h4.next (hbw _ _)⟩) HVL.out (HR.out.next (hbw _ _)) hown1 hgrow (gg_of hat (by simp))
          clear hown1 hgrow hat HR HV HVL hvs
          go_wp2_with fail
          go_roundw
          case rel => exact ⟨k + 1, gg, cx, rs ++ [r], by omega, by go_num, by simp, HN2, hrs, hw4⟩
          case measure => simp [intOf]; omega
        · have HS : Hid (rowS ⟨5, (p : Int), (q : Int), m4⟩ als rs n = some (mull (rs.getD p []) (rs.getD q []))) := by show _ = _; simp [rowS]
          have HRL : Hid ((mull (rs.getD p []) (rs.getD q [])).length = n) := by show _ = _; rw [mull_len]; exact LP.out
          generalize rs.getD p [] = lp at *
          generalize rs.getD q [] = lq at *
          go_wp2_with fail
          try rw [← hWX]
          clear hWX
          go_still_tail 10, (by kernel_rfl)
          change wpList _ _ _ _ _ WX.drew
          have hdw : Below WX.heap.size WX WX.drew := ⟨rfl, rfl, rfl, Nat.le_refl _, fun _ _ => rfl⟩
          generalize WX.drew = WD at hdw ⊢
          clear xc0 xc1 xc2 xc3 fp fq
          go_wp2_with fail
          refine (sMul _ _ _ _ lp lq _ (hap.out.below hdw (Nat.le_refl _)) (haq.out.below hdw (Nat.le_refl _)) NP.out.rng NQ.out.rng HLM (by omega)).mono ?_; rintro e w2 ⟨g2, k2, rfl, o2, b2⟩
          have hwd := HWW.out.trans (hdw.mono HWW.out.size)
          have hw2 := hwd.trans (b2.mono hwd.size)
          have ho2 := (HOX.out.next hdw).next b2
          have hav := o2.at
          clear o2 b2 HWW HOX hwd
          have HN2 := Lib.hid (HN.out _ HS.out)
          clear HN HZ
          have hrl1 : 1 ≤ (mull lp lq).length := by rw [HRL.out]; exact hn1
          have hrl2 : (mull lp lq).length ≤ 13 := by rw [HRL.out]; exact hn2
          generalize (mull lp lq) = r at *
          go_wp2_with fail
          refine (sOwn _ _ r _ hav hrl1 (by omega)).mono ?_; rintro e w3 ⟨g3, c3', rfl, o3, b3⟩
          have hw3 := hw2.trans (b3.mono hw2.size)
          have ho3 := ho2.next b3
          have hg3 := o3.base
          have hgb2 := ho2.base
          have HR := Lib.hid (o3.rw (g0 := g) (by omega))
          obtain ⟨vs, hvs, hall'⟩ := ho3
          have HVL : Hid (vs.length = rs.length) := by have := hvs.1; show _ = _; omega
          have HV := Lib.hid hall'
          have hz3 := hw3.size
          clear b3 o3 ho2 hw2 hall' hav HRL
          go_wp2_with (at_builtin; refine wpList_append_lies _ rfl _ _ _ rfl w.heap.size 37 i0 _ 1 24 Try.underlying97 hi hz0 hz1 hz2 rfl (by omega) (.slice (some ⟨g, 0, none⟩) rs.length cap) rs.length vs rfl (hvs.alloc _) ⟨w3.heap.size, 0, none⟩ 1 1 [.slice (some ⟨g3, 0, none⟩) r.length c3'] rfl rfl (World.news_of_block (cs := #[.slice (some ⟨g3, 0, none⟩) r.length c3']) (t := 37) (fr := (0, 0)) (heap_alloc_new w3 _)) (by simp [Value.oneCell']) (by omega) (by unfold maxLen; omega) (by omega) (by simp; omega) (w3.heap.size + 1) (by simp) ?_; intro gg cx w4 hown1 hgrow hat hlt1)
          have hw4 := (hw3.alloc hz3 (.cells #[.slice (some ⟨g3, 0, none⟩) r.length c3'] 37)).grown hgrow (by simp; omega) (by intro q hq; simp [Value.ownBlock] at hq; omega)
          have hrs : Rws w4 w.heap.size gg cx (rs ++ [r]) := rws_push (w := w3.alloc (.cells #[.slice (some ⟨g3, 0, none⟩) r.length c3'] 37)) (fun i hi => by obtain ⟨ai, ci, h3, h4⟩ := HV.out i hi; exact ⟨ai, ci, h3, h4.next (hbw _ _)⟩) HVL.out (HR.out.next (hbw _ _)) hown1 hgrow (gg_of hat (by simp))
          clear hown1 hgrow hat HR HV HVL hvs
          go_wp2_with fail
          go_roundw
          case rel => exact ⟨k + 1, gg, cx, rs ++ [r], by omega, by go_num, by simp, HN2, hrs, hw4⟩
          case measure => simp [intOf]; omega
        · obtain ⟨aq', cq', fq0, hrq0⟩ := HO0.out.get hq6
          have eqq : some (Value.slice aq' (rs.getD q []).length cq') = some (Value.slice aq (rs.getD q []).length cq) := by rw [← fq0, ← fq]; exact (hwx.cell (p := ⟨g, q, none⟩) hgb.2).symm
          simp only [Option.some.injEq, Value.slice.injEq] at eqq
          obtain ⟨rfl, _, rfl⟩ := eqq
          obtain ⟨b9, o9, rfl, hb9, _, hall9⟩ := hrq0.resolve_left (by intro e; rw [e] at hm0; simp at hm0)
          have f9 := hall9 0 (by omega)
          rw [Nat.add_zero] at f9
          have hm0i : (0 : Int) < ((rs.getD q []).length : Int) := by omega
          clear hall9
          by_cases hz6 : (rs.getD q []).getD 0 0 = 0
          · have HE := HZ.out (by rw [row6, Int.toNat_natCast, if_pos hz6])
            have HE2 := Lib.hid HE
            rw [hz6] at f9
            generalize rs.getD p [] = lp at *
            generalize rs.getD q [] = lq at *
            clear HE HN HZ hz6 hrq hrp hrq0 fq fp
            go_wp2_with fail
            try rw [← hWX]
            go_ret2
            exact .inl ⟨HE2.out, ⟨_, rfl⟩, HWW.out.alloc HWW.out.size _⟩
          · have HS : Hid (rowS ⟨6, (p : Int), (q : Int), m4⟩ als rs n = some (divl (rs.getD p []) (rs.getD q []))) := by show _ = _; rw [row6, Int.toNat_natCast, if_neg hz6, Int.toNat_natCast]
            have HRL : Hid ((divl (rs.getD p []) (rs.getD q [])).length = n) := by show _ = _; rw [divl_len]; exact LP.out
            have hd6 := tne_beq hz6
            clear hz6 hrq0 hrp hrq
            generalize (rs.getD q []).getD 0 0 = y6 at f9 hd6
            generalize rs.getD p [] = lp at *
            generalize rs.getD q [] = lq at *
            go_wp2_with fail
            try rw [← hWX]
            clear hWX
            go_still_tail 10, (by kernel_rfl)
            change wpList _ _ _ _ _ WX.drew
            have hdw : Below WX.heap.size WX WX.drew := ⟨rfl, rfl, rfl, Nat.le_refl _, fun _ _ => rfl⟩
            generalize WX.drew = WD at hdw ⊢
            clear xc0 xc1 xc2 xc3 fp fq fq0 f9 hd6 hm0i hb9
            go_wp2_with fail
            refine (sDiv _ _ _ _ lp lq _ (hap.out.below hdw (Nat.le_refl _)) (haq.out.below hdw (Nat.le_refl _)) NP.out NQ.out HLM hl0 (by omega)).mono ?_; rintro e w2 ⟨g2, k2, rfl, o2, b2⟩
            have hwd := HWW.out.trans (hdw.mono HWW.out.size)
            have hw2 := hwd.trans (b2.mono hwd.size)
            have ho2 := (HOX.out.next hdw).next b2
            have hav := o2.at
            clear o2 b2 HWW HOX hwd
            have HN2 := Lib.hid (HN.out _ HS.out)
            clear HN HZ
            have hrl1 : 1 ≤ (divl lp lq).length := by rw [HRL.out]; exact hn1
            have hrl2 : (divl lp lq).length ≤ 13 := by rw [HRL.out]; exact hn2
            generalize (divl lp lq) = r at *
            go_wp2_with fail
            refine (sOwn _ _ r _ hav hrl1 (by omega)).mono ?_; rintro e w3 ⟨g3, c3', rfl, o3, b3⟩
            have hw3 := hw2.trans (b3.mono hw2.size)
            have ho3 := ho2.next b3
            have hg3 := o3.base
            have hgb2 := ho2.base
            have HR := Lib.hid (o3.rw (g0 := g) (by omega))
            obtain ⟨vs, hvs, hall'⟩ := ho3
            have HVL : Hid (vs.length = rs.length) := by have := hvs.1; show _ = _; omega
            have HV := Lib.hid hall'
            have hz3 := hw3.size
            clear b3 o3 ho2 hw2 hall' hav HRL
            go_wp2_with (at_builtin; refine wpList_append_lies _ rfl _ _ _ rfl w.heap.size 37 i0 _ 1 24 Try.underlying97 hi hz0 hz1 hz2 rfl (by omega) (.slice (some ⟨g, 0, none⟩) rs.length cap) rs.length vs rfl (hvs.alloc _) ⟨w3.heap.size, 0, none⟩ 1 1 [.slice (some ⟨g3, 0, none⟩) r.length c3'] rfl rfl (World.news_of_block (cs := #[.slice (some ⟨g3, 0, none⟩) r.length c3']) (t := 37) (fr := (0, 0)) (heap_alloc_new w3 _)) (by simp [Value.oneCell']) (by omega) (by unfold maxLen; omega) (by omega) (by simp; omega) (w3.heap.size + 1) (by simp) ?_; intro gg cx w4 hown1 hgrow hat hlt1)
            have hw4 := (hw3.alloc hz3 (.cells #[.slice (some ⟨g3, 0, none⟩) r.length c3'] 37)).grown hgrow (by simp; omega) (by intro q hq; simp [Value.ownBlock] at hq; omega)
            have hrs : Rws w4 w.heap.size gg cx (rs ++ [r]) := rws_push (w := w3.alloc (.cells #[.slice (some ⟨g3, 0, none⟩) r.length c3'] 37)) (fun i hi => by obtain ⟨ai, ci, h3, h4⟩ := HV.out i hi; exact ⟨ai, ci, h3, h4.next (hbw _ _)⟩) HVL.out (HR.out.next (hbw _ _)) hown1 hgrow (gg_of hat (by simp))
            clear hown1 hgrow hat HR HV HVL hvs
            go_wp2_with fail
            go_roundw
            case rel => exact ⟨k + 1, gg, cx, rs ++ [r], by omega, by go_num, by simp, HN2, hrs, hw4⟩
            case measure => simp [intOf]; omega
      · obtain ⟨p, rfl⟩ : ∃ q : Nat, a4 = (q : Int) := ⟨a4.toNat, by omega⟩
        have hkl : rs.length = k := HK.out.1
        have hp : p < rs.length := by omega
        have hpi : (p : Int) < (rs.length : Int) := by omega
        obtain ⟨ap, cp, fp, hrp⟩ := HO0.out.get hp
        have hpk := HK.out.2 p hp
        have hap := Lib.hid (hrp.at.below hwx (Nat.le_refl _))
        have NP := Lib.hid hpk.2
        have hl1 : (rs.getD p []).length ≤ 13 := by rw [hpk.1]; exact hn2
        have HRL : Hid ((scl4 (rs.getD p []) 1000002).length = n) := by show _ = _; rw [scl4_len]; exact hpk.1
        have HS : Hid (rowS ⟨7, (p : Int), b4, m4⟩ als rs n = some (scl4 (rs.getD p []) 1000002)) := by show _ = _; simp [rowS]
        clear hals HAX HK hkl hpk ha hp
        generalize rs.getD p [] = lp at *
        go_wp2_with fail
        try rw [← hWX]
        clear hWX xc0 xc1 xc2 xc3
        refine (sScale4 _ _ lp 1000002 _ hap.out (by omega) NP.out (by omega)).mono ?_; rintro e w2 ⟨g2, k2, rfl, o2, b2⟩
        have hw2 := HWW.out.trans (b2.mono HWW.out.size)
        have ho2 := HOX.out.next b2
        have hav := o2.at
        clear o2 b2 HWW HOX
        have HN2 := Lib.hid (HN.out _ HS.out)
        clear HN HZ
        have hrl1 : 1 ≤ (scl4 lp 1000002).length := by rw [HRL.out]; exact hn1
        have hrl2 : (scl4 lp 1000002).length ≤ 13 := by rw [HRL.out]; exact hn2
        generalize (scl4 lp 1000002) = r at *
        go_wp2_with fail
        refine (sOwn _ _ r _ hav hrl1 (by omega)).mono ?_; rintro e w3 ⟨g3, c3', rfl, o3, b3⟩
        have hw3 := hw2.trans (b3.mono hw2.size)
        have ho3 := ho2.next b3
        have hg3 := o3.base
        have hgb2 := ho2.base
        have HR := Lib.hid (o3.rw (g0 := g) (by omega))
        obtain ⟨vs, hvs, hall'⟩ := ho3
        have HVL : Hid (vs.length = rs.length) := by have := hvs.1; show _ = _; omega
        have HV := Lib.hid hall'
        have hz3 := hw3.size
        clear b3 o3 ho2 hw2 hall' hav HRL
        go_wp2_with (at_builtin; refine wpList_append_lies _ rfl _ _ _ rfl w.heap.size 37 i0 _ 1 24 Try.underlying97 hi hz0 hz1 hz2 rfl (by omega) (.slice (some ⟨g, 0, none⟩) rs.length cap) rs.length vs rfl (hvs.alloc _) ⟨w3.heap.size, 0, none⟩ 1 1 [.slice (some ⟨g3, 0, none⟩) r.length c3'] rfl rfl (World.news_of_block (cs := #[.slice (some ⟨g3, 0, none⟩) r.length c3']) (t := 37) (fr := (0, 0)) (heap_alloc_new w3 _)) (by simp [Value.oneCell']) (by omega) (by unfold maxLen; omega) (by omega) (by simp; omega) (w3.heap.size + 1) (by simp) ?_; intro gg cx w4 hown1 hgrow hat hlt1)
        have hw4 := (hw3.alloc hz3 (.cells #[.slice (some ⟨g3, 0, none⟩) r.length c3'] 37)).grown hgrow (by simp; omega) (by intro q hq; simp [Value.ownBlock] at hq; omega)
        have hrs : Rws w4 w.heap.size gg cx (rs ++ [r]) := rws_push (w := w3.alloc (.cells #[.slice (some ⟨g3, 0, none⟩) r.length c3'] 37)) (fun i hi => by obtain ⟨ai, ci, h3, h4⟩ := HV.out i hi; exact ⟨ai, ci, h3, h4.next (hbw _ _)⟩) HVL.out (HR.out.next (hbw _ _)) hown1 hgrow (gg_of hat (by simp))
        clear hown1 hgrow hat HR HV HVL hvs
        go_wp2_with fail
        go_roundw
        case rel => exact ⟨k + 1, gg, cx, rs ++ [r], by omega, by go_num, by simp, HN2, hrs, hw4⟩
        case measure => simp [intOf]; omega
    · have hii : ¬ (k : Int) < (t.code.length : Int) := by omega
      have hkk : k = t.code.length := by omega
      subst hkk
      clear hP hA hC
      go_wp2_with fail
      go_ret2
      exact .inr ⟨rs, g, cap, HX.out, rfl, ho, hw⟩

end Go.Proofs.Ytggojffmfjeikaa
