/- Idle actions removed, by the model. -/
import Derived.Test.YtolpbflalbfhjaaCki
import Derived.Deep.AppendLies
import Derived.Deep.RegionHeld3
namespace Go.Proofs.Ytolpbflalbfhjaa
open Go.RowKit
set_option linter.unusedVariables false

theorem flA_app (l r : List Ac) : flA (l ++ r) = flA l ++ flA r := by
  induction l with
  | nil => rfl
  | cons x l ih => rw [List.cons_append, flA, ih, flA]; rfl
theorem flA_era (l : List Ac) (i : Nat) : flA (l.eraseIdx i) = flA (l.take i) ++ flA (l.drop (i + 1)) := by
  rw [← flA_app, List.eraseIdx_eq_take_drop_succ]
theorem flA_pre {l : List Ac} {i j : Nat} {u : Value} (h : (flA (l.take i))[j]? = some u) : (flA l)[j]? = some u := by
  have hlt := (List.getElem?_eq_some_iff.1 h).1
  have e : flA l = flA (l.take i) ++ flA (l.drop i) := by rw [← flA_app, List.take_append_drop]
  rw [e, List.getElem?_append_left hlt, h]
theorem step_append_own {P : Program} {ops : Array Oper} {o : Oper} {a : Act} {w : World} {K : Act → World → Prop} {Q : Exit → Act → World → Prop} {E : Prop} (hgd : o.guard = none) (s x : Operand) (t : TypeId)
    (ho : o.op = .call { callee := .builtin .append, args := #[s, x], argTypes := #[t, t] })
    (base : Nat) (e : TypeId) (i : TypeInfo) (z : Value) (size bytes : Nat) (ht : P.underlying t = some (.slice e)) (hi : P.info? e = some i) (hz : i.zero = some z)
    (hsize : i.size = size) (hby : i.bytes = bytes) (hzs : z.cells.size = size) (hsz : 0 < size)
    (v : Value) (n : Nat) (xs : List Value) (hs : a.eval s = v) (hown : w.ownsRow base e size v n xs)
    (ad : Addr) (m c : Nat) (news : List Value) (hx : a.eval x = .slice (some ad) m c) (hl : news.length = m * size) (hnews : ∀ j u, news[j]? = some u → w.cell? (ad.add j) = some u) (h1 : ∀ u ∈ news, u.oneCell' = true)
    (h63 : n + m ≤ maxLen) (hbytes : (n + m) * bytes ≤ 140737488355328) (hbase : base ≤ w.heap.size)
    (h : ∀ v' w', w'.ownsRow base e size v' (n + m) (xs ++ news) → w.grownBy w' v.ownBlock → (v' = .slice none 0 0 ↔ v = .slice none 0 0 ∧ m = 0) → K (a.put o.dst v') w') :
    if Region.wanted o (yielded ops a.tmps) = true then Oper.wp P o a w K Q else E := by
  have hw : Region.wanted o (yielded ops a.tmps) = true := by simp [Region.wanted, hgd]
  rw [if_pos hw]
  exact wp_append_own w s x t ho base e i z size bytes ht hi hz hsize hby hzs hsz v n xs hs hown ad m c news hx hl hnews h1 h63 hbytes hbase h

theorem meas2 {a b n n' i : Nat} {z : Int} (h1 : a = n') (h2 : b = n) (hle : n' = n - 1) (hi : i < n) (hn : n ≤ 400) : 402 * a + (a - z.toNat) < 402 * b + (b - (i : Int).toNat) := by omega
set_option maxRecDepth 100000 in
set_option maxHeartbeats 6400000 in
theorem sTrim_0 (n m : Nat) (hn : n ≤ 40) (hm : m ≤ 8) (l : List Ac) (hl : schB l = true) (hall : allB (cs0 n m) l = true) (a : Option Addr) (cap : Nat) (w : World) (hP : AcAt w 0 w.heap.size l a) (hs : l.length ≤ 1048576)
    (hask : askC l n m = 0) :
    Calls Try.prog 40 #[.slice a l.length cap, .int .i64 n, .int .i64 m] w (TPost (trB l) 0 w) := by
  obtain ⟨i0, hi, hz0, hz1, hz2⟩ := info_parts infoAc
  have HA := Lib.hid (sAsked l a cap n m w hP hs)
  rw [hask] at HA
  have HB := fun (W : World) (hP : AcAt W 0 W.heap.size l a) => Lib.hid (sBad n m hn hm l hl a cap W hP)
  unfold BadP at HB
  rw [hall] at HB
  have hll := (schB_t hl).1
  generalize hk : (goS (cs0 n m) l).1 = kk at HB
  have HR := Lib.hid (fun k => hP.row k)
  clear hask hk hl hall
  go_enter Try.func40, Try.ntmps40
  go_wp2_with fail
  refine HA.out.mono ?_; rintro e w1 ⟨rfl, hb1⟩
  have HB2 := HB w1 (hP.next hb1)
  clear HB HA
  go_wp2_with fail
  refine HB2.out.mono ?_; rintro e w2 ⟨rfl, hb2⟩
  have hw2 := hb1.trans (hb2.mono hb1.size)
  clear HB2 hb1 hb2
  have hP2 := hP.next hw2
  cases a
  focus
    have hl0 : l.length = 0 := by
      rcases hP with h | ⟨_, _, e, _⟩
      · rw [h]; rfl
      · cases e
    rw [hl0]
    have hT : TRow (w2.alloc (.cells #[] 53)) w2.heap.size (.slice (some ⟨w2.heap.size, 0, none⟩) 0 0) l := .inl ⟨List.eq_nil_of_length_eq_zero hl0, _, _, rfl⟩
    have hb3 : Below w2.heap.size w2 (w2.alloc (.cells #[] 53)) := (Below.refl _ w2).alloc (Nat.le_refl _) _
    have hw3 := hw2.trans (hb3.mono hw2.size)
    have hz3 := hb3.size
    clear hl0
    go_wp2_with fail
  rotate_left
  focus
    rename_i ad
    have hsrc : Hid (∀ (o : Obj) j u, (flA l)[j]? = some u → (w2.alloc o).cell? (ad.add j) = some u) := by
      intro o j u hu
      rcases hP2 with h | ⟨b, off, e, hb, hc⟩
      · rw [h] at hu; simp [flA] at hu
      · simp only [Option.some.injEq] at e
        subst e
        rw [Addr.add_lit]
        exact Lib.cell?_alloc_some _ (flA_at (.inr ⟨b, off, rfl, hb, hc⟩) j u hu)
    have hl2 := Lib.hid (flA_len l)
    have h1 := Lib.hid (flA_one l)
    go_wp2_with (at_builtin; refine wpList_append_own _ rfl _ _ 29 rfl w2.heap.size 53 i0 _ 2 16 Try.underlying29 hi hz0 hz1 hz2 rfl (by omega) _ _ _ rfl (World.ownsRow_made w2 #[] 0 (Nat.le_refl _) (Nat.zero_le _) (by simp)) ad l.length cap (flA l) rfl ?qc1 ?qc2 ?qc3 ?qc4 ?qc5 ?qc6 ?_)
    case qc1 => exact hl2.out
    case qc2 => exact hsrc.out _
    case qc3 => exact h1.out
    case qc4 => unfold maxLen; omega
    case qc5 => omega
    case qc6 => simp
    intro v w3 hown hgrow hnil
    have hT := row_of rfl HR.out (by simpa using hown)
    have hb3 : Below w2.heap.size w2 w3 := ((Below.refl _ w2).alloc (Nat.le_refl _) _).grown hgrow (by simp) (by intro k hk; simp [Value.ownBlock] at hk; omega)
    have hw3 := hw2.trans (hb3.mono hw2.size)
    have hz3 := hb3.size
    clear hown hgrow hnil hsrc hl2 h1
    go_wp2_with fail
  all_goals
    have hLw := hw2.size
    clear hP hP2 hw2 hb3 HR
    go_loopw [11, 12] (fun v q wr => ∃ (l' : List Ac) (i : Nat), i ≤ l'.length ∧ l'.length ≤ 400 ∧ q = .int .i64 i ∧ Hid (trB l = trB l') ∧ Hid (firB l' = firF l' (l'.length - i) i) ∧ Hid (TRow wr w2.heap.size v l') ∧ w2.heap.size ≤ wr.heap.size ∧ Below w.heap.size w wr) (fun v q _ => 402 * lenV v + (lenV v - (intOf q).toNat))
    case atStart => exact ⟨l, 0, Nat.zero_le _, hll, rfl, rfl, rfl, hT, hz3, hw3⟩
    case round =>
      obtain ⟨l', i, hil, hll', rfl, HG, HX, HT, hzr, hw⟩ := hrel
      clear hT hz3 hw3 hll
      have HM := Lib.hid HT.out.lenV
      by_cases hlt : i < l'.length
      · obtain ⟨g, cp, n0, rfl, hA, hW, hn0, hcp⟩ := HT.out.resolve_left (by rintro ⟨e, _⟩; rw [e] at hlt; simp at hlt)
        have hii : (i : Int) < (l'.length : Int) := by omega
        have hi9 : IntKind.i64.wrap ((i : Int) + 1) = (i : Int) + 1 := IntWalk.i64_in _ (by omega)
        have HI := Lib.hid (sIdle l' i hlt (some ⟨g, 0, none⟩) cp wr (hA.mono (Nat.zero_le _) (Nat.le_refl _)) (by omega))
        have HS : Hid (firB l' = if idB (l'.getD i noAc) (l'.drop (i + 1)) = true then (i : Int) else firF l' (l'.length - (i + 1)) (i + 1)) := by show _ = _; rw [HX.out, firF_step hlt]
        clear HX
        generalize idB (l'.getD i noAc) (l'.drop (i + 1)) = bb at HI HS
        go_wp2_with fail
        refine HI.out.mono ?_; rintro e w4 ⟨rfl, hb4⟩
        have HT4 := Lib.hid (HT.out.below hb4)
        have hw4 := hw.trans (hb4.mono hw.size)
        have hz4 := hb4.size
        have hA4 := hA.next hb4
        have hgw := hW.1.2
        clear HI HT hb4 hw hA hW
        cases bb with
        | false =>
          have HX2 : Hid (firB l' = firF l' (l'.length - (i + 1)) (i + 1)) := HS.out.trans (if_neg (by simp))
          clear HS hA4
          go_wp2_with fail
          go_roundw
          case rel => exact ⟨l', i + 1, by omega, hll', by go_num, HG.out, HX2.out, HT4.out, by omega, hw4⟩
          case measure => simp [intOf, lenV]; omega
        | true =>
          have hfi : firB l' = i := HS.out.trans (if_pos (by trivial))
          have HG2 : Hid (trB l = trB (l'.eraseIdx i)) := by
            show _ = _
            rw [HG.out, (trB_step (l := l') (by rw [hfi]; omega)).1, hfi]; rfl
          have hle : (l'.eraseIdx i).length = l'.length - 1 := List.length_eraseIdx_of_lt hlt
          clear HS HG hfi HT4
          have hzw := hw4.size
          have hba : w2.heap.size ≤ w4.drew.heap.size := by show w2.heap.size ≤ w4.heap.size; omega
          have S1 : Hid (∀ (o : Obj) j u, (flA (l'.take i))[j]? = some u → (w4.drew.alloc o).cell? ((⟨g, 0, none⟩ : Addr).add j) = some u) := by
            intro o j u hu
            rw [Addr.add_lit]
            exact Lib.cell?_alloc_some _ (show w4.cell? _ = _ from flA_at hA4 j u (flA_pre hu))
          obtain ⟨x, hpt, S2⟩ : ∃ x : Nat, (if cp = i + 1 then (some ⟨g, 0, none⟩ : Option Addr) else some ⟨g, (i + 1) * 2, none⟩) = some ⟨g, x, none⟩ ∧ Hid (∀ (o : Obj) j u, (flA (l'.drop (i + 1)))[j]? = some u → (w4.drew.alloc o).cell? ((⟨g, x, none⟩ : Addr).add j) = some u) := by
            by_cases h : cp = i + 1
            · refine ⟨0, if_pos h, fun o j u hu => ?_⟩
              rw [show l'.drop (i + 1) = [] from List.drop_eq_nil_of_le (by omega)] at hu
              simp [flA] at hu
            · refine ⟨(i + 1) * 2, if_neg h, fun o j u hu => ?_⟩
              rw [Addr.add_lit]
              have := flA_at (hA4.sub (k := i + 1)) j u hu
              rw [Nat.zero_add] at this
              exact Lib.cell?_alloc_some _ (show w4.cell? _ = _ from this)
          have T1 := Lib.hid (flA_one (l'.take i))
          have T2 := Lib.hid (flA_one (l'.drop (i + 1)))
          have L1 : Hid ((flA (l'.take i)).length = i * 2) := by show _ = _; rw [flA_len, List.length_take, Nat.min_eq_left hil]
          have L2 : Hid ((flA (l'.drop (i + 1))).length = (l'.length - (i + 1)) * 2) := by show _ = _; rw [flA_len, List.length_drop]
          have HE : Hid (flA (l'.eraseIdx i) = flA (l'.take i) ++ flA (l'.drop (i + 1))) := flA_era l' i
          have HRR : Hid (∀ k, RAc ((l'.eraseIdx i).getD k noAc)) := by intro k; rw [era_get]; split <;> exact hA4.row _
          have HPT := Lib.hid hpt
          generalize flA (l'.take i) = f1 at *
          generalize flA (l'.drop (i + 1)) = f2 at *
          have hj1 : (i : Int) + 1 ≤ (l'.length : Int) := by omega
          have hj0 : (0 : Int) ≤ (i : Int) + 1 := by omega
          have hj2 : (i : Int) ≤ (cp : Int) := by omega
          have hj3 : (i : Int) + 1 ≤ (cp : Int) := by omega
          clear hA4
          go_wp2_with fail
          go_region_held_law (fun _ => True) (trivial) (first
            | (refine step_append_own rfl (.tmp 42) (.tmp 45) 29 rfl w2.heap.size 53 i0 _ 2 16 Try.underlying29 hi hz0 hz1 hz2 rfl (by omega) (.slice (some ⟨w4.heap.size, 0, none⟩) 0 0) 0 [] (by first | rfl | simp [Act.eval]) (World.ownsRow_made w4.drew #[] 0 hba (Nat.zero_le _) (by simp)) ⟨g, 0, none⟩ i cp f1 (by first | rfl | simp [Act.eval]) L1.out (S1.out _) T1.out (by unfold maxLen; omega) (by omega) (by simp; omega) ?_; intro v5 w5 hown5 hgr5 hnil5)
            | (refine step_append_own rfl (.tmp 46) (.tmp 50) 29 rfl w2.heap.size 53 i0 _ 2 16 Try.underlying29 hi hz0 hz1 hz2 rfl (by omega) v5 (0 + i) ([] ++ f1) (by first | rfl | simp [Act.eval]) hown5 ⟨g, x, none⟩ (l'.length - (i + 1)) (cp - (i + 1)) f2 (by first | rfl | simp [Act.eval]) L2.out (fun j u hu => hgr5.cell (S2.out _ j u hu) (by rw [Addr.add_lit]; simp [Value.ownBlock]; omega)) T2.out (by unfold maxLen; omega) (by omega) (by have := hgr5.size; simp at this; omega) ?_; intro v6 w6 hown6 hgr6 hnil6))
          all_goals
            have hz5 : w4.heap.size ≤ w5.heap.size := by have := hgr5.size; simp at this; omega
            have hz6 : w2.heap.size ≤ w6.heap.size := by have := hgr6.size; omega
            have hw6 : Below w.heap.size w w6 := (((hw4.trans ((ckdrew (Below.refl _ _)).mono hzw)).alloc (by show w.heap.size ≤ w4.heap.size; omega) _).grown hgr5 (by simp; omega) (by intro k hk; simp [Value.ownBlock] at hk; omega)).grown hgr6 (by omega) (fun k hk => by have := (World.ownsRow.lt hown5 k hk).1; omega)
            have hT6 := Lib.hid (row_of (l := l'.eraseIdx i) (n := 0 + i + (l'.length - (i + 1))) (by rw [hle]; omega) HRR.out (by rw [HE.out]; simpa using hown6))
            have HM6 := Lib.hid hT6.out.lenV
            clear hown5 hown6 hgr5 hgr6 hnil5 hnil6 hpt
            go_wp2_with fail
            go_roundw
            case rel => exact ⟨l'.eraseIdx i, 0, Nat.zero_le _, by omega, rfl, HG2.out, rfl, hT6.out, hz6, hw6⟩
            case measure => exact meas2 HM6.out HM.out hle hlt hll'
      · have hii : ¬ (i : Int) < (l'.length : Int) := by omega
        have hfi : Hid (trB l = l') := by
          show _ = _
          rw [HG.out, trB_end]; rw [HX.out, firF_end _ _ _ (by omega)]; decide
        clear HX HG HM
        rcases HT.out with ⟨e0, a', c', rfl⟩ | ⟨g, cp, n0, rfl, _⟩
        · have hi0 : ¬ (i : Int) < 0 := by omega
          clear e0
          go_wp2_with fail
          go_ret2
          exact tpost (by rw [hfi.out]; exact HT.out) hLw rfl hw
        · go_wp2_with fail
          go_ret2
          exact tpost (by rw [hfi.out]; exact HT.out) hLw rfl hw

set_option maxRecDepth 100000 in
set_option maxHeartbeats 3200000 in
theorem sTrimSchedule (l : List Ac) (a : Option Addr) (cap : Nat) (n s : Int) (w : World) (hP : AcAt w 0 w.heap.size l a) (hs : l.length ≤ 1048576)
    (h0 : -9223372036854775808 ≤ n ∧ n ≤ 9223372036854775807) (h1 : -9223372036854775808 ≤ s ∧ s ≤ 9223372036854775807) :
    Calls Try.prog 40 #[.slice a l.length cap, .int .i64 n, .int .i64 s] w (TPost (RTrimSchedule l n s) (CTrimSchedule l n s) w) := by
  by_cases hc : askC l n s = 0
  · obtain ⟨hsch, b1, b2⟩ := askC_0 hc
    obtain ⟨s, rfl⟩ : ∃ m : Nat, s = m := ⟨s.toNat, by omega⟩
    obtain ⟨n, rfl⟩ : ∃ m : Nat, n = m := ⟨n.toNat, by omega⟩
    cases hz : allB (cs0 n s) l with
    | true =>
      have HF : RTrimSchedule l n s = trB l ∧ CTrimSchedule l n s = 0 := by
        constructor <;> simp [RTrimSchedule, CTrimSchedule, hc, hz]
      rw [HF.1, HF.2]
      exact sTrim_0 n s (by omega) (by omega) l hsch hz a cap w hP hs hc
    | false =>
      have HF : RTrimSchedule l n s = [] ∧ CTrimSchedule l n s = 4 := by
        constructor <;> simp [RTrimSchedule, CTrimSchedule, hc, hz]
      have HA := Lib.hid (sAsked l a cap n s w hP hs)
      rw [hc] at HA
      have HB := fun (W : World) (hP : AcAt W 0 W.heap.size l a) => Lib.hid (sBad n s (by omega) (by omega) l hsch a cap W hP)
      unfold BadP at HB
      rw [hz] at HB
      rw [HF.1, HF.2]
      generalize hk : (goS (cs0 n s) l).1 = kk at HB
      clear hz hc hsch b1 b2 hk HF
      go_enter Try.func40, Try.ntmps40
      go_wp2_with fail
      refine HA.out.mono ?_; rintro e w1 ⟨rfl, hb⟩
      have HB2 := HB w1 (hP.next hb)
      clear HB HA
      go_wp2_with fail
      refine HB2.out.mono ?_; rintro e w2 ⟨rfl, hb2⟩
      have hw2 := hb.trans (hb2.mono hb.size)
      clear HB2
      go_wp2_with fail
      go_ret2
      exact ⟨_, _, rfl, .inl ⟨rfl, _, _, rfl⟩, hw2.alloc hw2.size _⟩
  · have HF : RTrimSchedule l n s = [] ∧ CTrimSchedule l n s = askC l n s := by constructor <;> simp [RTrimSchedule, CTrimSchedule, hc]
    have HA := Lib.hid (sAsked l a cap n s w hP hs)
    have hne : (askC l n s != 0) = true := by simp [hc]
    rw [HF.1, HF.2]
    clear hc HF
    generalize askC l n s = c at *
    go_enter Try.func40, Try.ntmps40
    go_wp2_with fail
    refine HA.out.mono ?_; rintro e w1 ⟨rfl, hb⟩
    go_wp2_with fail
    go_ret2
    exact ⟨_, _, rfl, .inl ⟨rfl, _, _, rfl⟩, hb.alloc hb.size _⟩

end Go.Proofs.Ytolpbflalbfhjaa
