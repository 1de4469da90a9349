/- Tapes: the registers for numbers, by the model. -/
import Derived.Test.YtggojffmfjeikaaTse
namespace Go.Proofs.Ytggojffmfjeikaa
open Go.RowKit
set_option linter.unusedVariables false

/-- what an instruction writes, for numbers -/
def valV (x : In4) (l rs : List Int) : Option Int :=
  if x.op = 1 then some (l.getD x.num.toNat 0)
  else if x.op = 2 then some x.num
  else if x.op = 3 then some (pls (rs.getD x.a.toNat 0) (rs.getD x.b.toNat 0))
  else if x.op = 4 then some (mns (rs.getD x.a.toNat 0) (rs.getD x.b.toNat 0))
  else if x.op = 5 then some (tms (rs.getD x.a.toNat 0) (rs.getD x.b.toNat 0))
  else if x.op = 7 then some (mns 0 (rs.getD x.a.toNat 0))
  else if rs.getD x.b.toNat 0 = 0 then none else some (tms (rs.getD x.a.toNat 0) (inv (rs.getD x.b.toNat 0)))
/-- the registers behind k instructions -/
def runV (t : Tp) (l : List Int) : Nat → Option (List Int)
  | 0 => some []
  | k + 1 => (runV t l k).bind fun rs => (valV (t.code.getD k no4) l rs).map fun r => rs ++ [r]
theorem runV_none {t : Tp} {l : List Int} {k : Nat} (h : runV t l k = none) : ∀ m, k ≤ m → runV t l m = none := by
  intro m hm
  induction m with
  | zero => have : k = 0 := by omega
            rw [← this]; exact h
  | succ m ih =>
    by_cases hk : k = m + 1
    · rw [← hk]; exact h
    · rw [runV, ih (by omega)]; rfl
theorem nums_snoc {l : List Int} {x : Int} (h : Nums l) (hx : 0 ≤ x ∧ x < 1000003) : Nums (l ++ [x]) := by
  intro y hy
  rcases List.mem_append.1 hy with h1 | h1
  · exact h y h1
  · rw [List.mem_singleton.1 h1]; exact hx
theorem valV_bd {x : In4} {i : Nat} {inputs : Int} {l rs : List Int} {v : Int} (hx : insB x i inputs = true) (hl : Nums l) (h : valV x l rs = some v) : 0 ≤ v ∧ v < 1000003 := by
  rcases ins_reads hx with ⟨e, hn⟩ | ⟨e, hn⟩ | ⟨e, ha, hb⟩ | ⟨e, ha⟩
  · rw [valV, if_pos e] at h; cases h; exact hl.at _
  · rw [valV, if_neg (by omega), if_pos e] at h; cases h; exact hn
  · rcases e with e | e | e | e
    · rw [valV, if_neg (by omega), if_neg (by omega), if_pos e] at h; cases h; exact pls_bd _ _
    · rw [valV, if_neg (by omega), if_neg (by omega), if_neg (by omega), if_pos e] at h; cases h; exact mns_bd _ _
    · rw [valV, if_neg (by omega), if_neg (by omega), if_neg (by omega), if_neg (by omega), if_pos e] at h; cases h; exact tms_bd _ _
    · rw [valV, if_neg (by omega), if_neg (by omega), if_neg (by omega), if_neg (by omega), if_neg (by omega), if_neg (by omega)] at h
      split at h
      · cases h
      · cases h; exact tms_bd _ _
  · rw [valV, if_neg (by omega), if_neg (by omega), if_neg (by omega), if_neg (by omega), if_neg (by omega), if_pos e] at h; cases h; exact mns_bd _ _
theorem runV_ok {t : Tp} {l : List Int} (ht : Okt t) (hl : Nums l) : ∀ {k rs}, k ≤ t.code.length → runV t l k = some rs → rs.length = k ∧ Nums rs := by
  intro k
  induction k with
  | zero => intro rs _ h; cases h; exact ⟨rfl, fun n hn => by simp at hn⟩
  | succ k ih =>
    intro rs hk h
    rw [runV] at h
    obtain ⟨rs', h1, h2⟩ := Option.bind_eq_some_iff.1 h
    obtain ⟨r, h3, rfl⟩ := Option.map_eq_some_iff.1 h2
    obtain ⟨hlen, hok⟩ := ih (by omega) h1
    exact ⟨by simp [hlen], nums_snoc hok (valV_bd (ht.code k (by omega)) hl h3)⟩

theorem ones_len (l : List Int) : (ones l).length = l.length := by simp [ones]
theorem ones_at {l : List Int} {i : Nat} (h : i < l.length) : (ones l).getD i [] = [l.getD i 0] := by
  unfold ones
  rw [List.getD_eq_getElem?_getD, List.getElem?_map, List.getElem?_eq_getElem h, List.getD_eq_getElem?_getD, List.getElem?_eq_getElem h]; rfl
theorem ones_ok {l : List Int} (h : Nums l) : RowsOk 1 (ones l) := by
  intro i hi
  rw [ones_len] at hi
  rw [ones_at hi]
  refine ⟨rfl, fun n hn => ?_⟩
  rw [List.mem_singleton.1 hn]; exact h.at i
theorem ones_snoc (l : List Int) (x : Int) : ones (l ++ [x]) = ones l ++ [[x]] := by unfold ones; rw [List.map_append]; rfl
theorem coln_ones (l : List Int) : coln (ones l) 0 = l := by
  unfold coln ones
  rw [List.map_map]
  have : ((fun r : List Int => r.getD 0 0) ∘ fun x : Int => cstl x 1) = id := by funext x; rfl
  rw [this, List.map_id]
theorem one_add (a b : Int) : addl [a] [b] = [pls a b] := rfl
theorem one_scl (a c : Int) : scl4 [a] c = [tms a c] := rfl
theorem one_sub {a b : Int} : sub4 [a] [b] = [mns a b] := by
  show [pls a (tms b 1000002)] = [mns a b]
  unfold pls tms mns; congr 1; omega
theorem one_neg (a : Int) : scl4 [a] 1000002 = [mns 0 a] := by
  show [tms a 1000002] = [mns 0 a]
  unfold tms mns; congr 1; omega
theorem one_mul (a b : Int) : mull [a] [b] = [tms a b] := by
  show [pls 0 (tms a b)] = [tms a b]
  unfold pls tms; congr 1; omega
theorem one_div (a b : Int) : divl [a] [b] = [tms a (inv b)] := rfl

theorem rowS6 {x : In4} {als rs : List (List Int)} {n : Nat} (e : x.op = 6) : rowS x als rs n = if (rs.getD x.b.toNat []).getD 0 0 = 0 then none else some (divl (rs.getD x.a.toNat []) (rs.getD x.b.toNat [])) := by
  rw [rowS, if_neg (by omega), if_neg (by omega), if_neg (by omega), if_neg (by omega), if_neg (by omega), if_neg (by omega)]
theorem valV6 {x : In4} {l rs : List Int} (e : x.op = 6) : valV x l rs = if rs.getD x.b.toNat 0 = 0 then none else some (tms (rs.getD x.a.toNat 0) (inv (rs.getD x.b.toNat 0))) := by
  rw [valV, if_neg (by omega), if_neg (by omega), if_neg (by omega), if_neg (by omega), if_neg (by omega), if_neg (by omega)]
/-- for one number a row, the registers for series are those for numbers -/
theorem runS_ones {t : Tp} {l : List Int} (ht : Okt t) (hl : Nums l) (hin : t.inputs ≤ l.length) : ∀ k, k ≤ t.code.length → runS t (ones l) 1 k = (runV t l k).map ones := by
  intro k
  induction k with
  | zero => intro _; rfl
  | succ k ih =>
    intro hk
    rw [runS, runV, ih (by omega)]
    cases hv : runV t l k with
    | none => rfl
    | some rs =>
      obtain ⟨hlen, hok⟩ := runV_ok ht hl (by omega) hv
      show (rowS (t.code.getD k no4) (ones l) (ones rs) 1).map (fun r => ones rs ++ [r]) = ((valV (t.code.getD k no4) l rs).map fun r => rs ++ [r]).map ones
      have hx := ins_reads (ht.code k (by omega))
      generalize t.code.getD k no4 = x at hx
      have key : rowS x (ones l) (ones rs) 1 = (valV x l rs).map fun v => [v] := by
        have ga : ∀ q : Int, 0 ≤ q ∧ q < (k : Int) → (ones rs).getD q.toNat [] = [rs.getD q.toNat 0] := fun q hq => ones_at (by omega)
        rcases hx with ⟨e, hn⟩ | ⟨e, hn⟩ | ⟨e, ha, hb⟩ | ⟨e, ha⟩
        · rw [rowS, if_pos e, valV, if_pos e, ones_at (by omega)]; rfl
        · rw [rowS, if_neg (by omega), if_pos e, valV, if_neg (by omega), if_pos e]; rfl
        · rcases e with e | e | e | e
          · rw [rowS, if_neg (by omega), if_neg (by omega), if_pos e, valV, if_neg (by omega), if_neg (by omega), if_pos e, ga _ ha, ga _ hb]; rfl
          · rw [rowS, if_neg (by omega), if_neg (by omega), if_neg (by omega), if_pos e, valV, if_neg (by omega), if_neg (by omega), if_neg (by omega), if_pos e, ga _ ha, ga _ hb, one_sub]; rfl
          · rw [rowS, if_neg (by omega), if_neg (by omega), if_neg (by omega), if_neg (by omega), if_pos e, valV, if_neg (by omega), if_neg (by omega), if_neg (by omega), if_neg (by omega), if_pos e, ga _ ha, ga _ hb, one_mul]; rfl
          · rw [rowS6 e, valV6 e, ga _ ha, ga _ hb, one_div]
            show (if rs.getD x.b.toNat 0 = 0 then none else some _) = _
            split <;> rfl
        · rw [rowS, if_neg (by omega), if_neg (by omega), if_neg (by omega), if_neg (by omega), if_neg (by omega), if_pos e, valV, if_neg (by omega), if_neg (by omega), if_neg (by omega), if_neg (by omega), if_neg (by omega), if_pos e, ga _ ha, one_neg]; rfl
      rw [key]
      cases valV x l rs with
      | none => rfl
      | some v => show some _ = some _; rw [ones_snoc]

/-- the code of a tape and arguments -/
def askC (t : Tp) (l : List Int) : Int := if tapeB t = true then (if (l.length : Int) = t.inputs ∧ okNums l = true then 0 else 2) else 1
theorem askC_bad {t : Tp} {l : List Int} (h : tapeB t = false) : askC t l = 1 := by unfold askC; rw [if_neg (by rw [h]; simp)]
theorem askC_range {t : Tp} {l : List Int} (h : tapeB t = true) (h2 : ¬ ((l.length : Int) = t.inputs ∧ okNums l = true)) : askC t l = 2 := by unfold askC; rw [if_pos h, if_neg h2]
theorem askC_ok {t : Tp} {l : List Int} (h : tapeB t = true) (h2 : (l.length : Int) = t.inputs ∧ okNums l = true) : askC t l = 0 := by unfold askC; rw [if_pos h, if_pos h2]
theorem askC_zero {t : Tp} {l : List Int} (h : askC t l = 0) : tapeB t = true ∧ (l.length : Int) = t.inputs ∧ Nums l := by
  unfold askC at h
  split at h
  · rename_i h1
    split at h
    · rename_i h2; exact ⟨h1, h2.1, okNums_nums h2.2⟩
    · omega
  · omega

set_option maxRecDepth 100000 in
set_option maxHeartbeats 1600000 in
theorem sAsked (t : Tp) (bt : Nat) (ac : Option Addr) (cc : Nat) (ag : Option Addr) (cg : Nat) (ao : Option Addr) (co : Nat) (a : Option Addr) (ca : Nat) (l : List Int) (w : World) (hC : TCells w bt 0 t ac cc ag cg ao co) (hP : Tat w 0 w.heap.size t ac ag ao) (hA : At w a l) (hl : l.length ≤ 1048576) (hs : tpSize t ≤ 1048576) :
    Calls Try.prog 110 #[.pointer (some ⟨bt, 0, none⟩), .slice a l.length ca] w fun e w' => e = .returned (.int .i64 (askC t l)) ∧ Below w.heap.size w w' := by
  have HV := Lib.hid (sTapeP t bt ac cc ag cg ao co w hC hP hs)
  have hbt := hC.lt
  cases hb : tapeB t with
  | false =>
    have HF := Lib.hid (askC_bad (l := l) hb)
    rw [hb] at HV
    go_enter Try.func110, Try.ntmps110
    go_wp2_with fail
    refine HV.out.mono ?_; rintro e w1 ⟨rfl, b⟩
    go_wp2_with fail
    go_ret
    exact ⟨ret_int HF.out.symm, b⟩
  | true =>
    rw [hb] at HV
    by_cases h1 : (l.length : Int) = t.inputs
    · have hne : ((l.length : Int) != t.inputs) = false := by simp [h1]
      have HN := fun (W : World) (hW : Below w.heap.size w W) => Lib.hid (sNumbers a ca l W (hA.below hW (Nat.le_refl _)) (by omega))
      cases hq : okNums l with
      | true =>
        have HF := Lib.hid (askC_ok hb ⟨h1, hq⟩)
        rw [hq] at HN
        go_enter Try.func110, Try.ntmps110
        go_wp2_with fail
        refine HV.out.mono ?_; rintro e w1 ⟨rfl, b⟩
        have c0 := (hC.below b hbt).c0
        clear hC h1
        go_wp2_with fail
        refine (HN _ b).out.mono ?_; rintro e w' ⟨rfl, rfl⟩
        go_wp2_with fail
        go_ret
        exact ⟨ret_int HF.out.symm, b⟩
      | false =>
        have HF := Lib.hid (askC_range hb (l := l) (fun h => by rw [hq] at h; cases h.2))
        rw [hq] at HN
        go_enter Try.func110, Try.ntmps110
        go_wp2_with fail
        refine HV.out.mono ?_; rintro e w1 ⟨rfl, b⟩
        have c0 := (hC.below b hbt).c0
        clear hC h1
        go_wp2_with fail
        refine (HN _ b).out.mono ?_; rintro e w' ⟨rfl, rfl⟩
        go_wp2_with fail
        go_ret
        exact ⟨ret_int HF.out.symm, b⟩
    · have HF := Lib.hid (askC_range hb (l := l) (fun h => h1 h.1))
      have hne : ((l.length : Int) != t.inputs) = true := by simp [h1]
      go_enter Try.func110, Try.ntmps110
      go_wp2_with fail
      refine HV.out.mono ?_; rintro e w1 ⟨rfl, b⟩
      have c0 := (hC.below b hbt).c0
      clear hC h1
      go_wp2_with fail
      go_ret
      exact ⟨ret_int HF.out.symm, b⟩

def RRegistersOf (t : Tp) (l : List Int) : List Int := if askC t l = 0 then (runV t l t.code.length).getD [] else []
def CRegistersOf (t : Tp) (l : List Int) : Int := if askC t l = 0 then (if runV t l t.code.length = none then 6 else 0) else askC t l
theorem RRegistersOf_le (t : Tp) (l : List Int) : (RRegistersOf t l).length ≤ 3200 := by
  unfold RRegistersOf
  split
  · rename_i h
    obtain ⟨h1, h2, h3⟩ := askC_zero h
    have ht := tapeB_ok h1
    cases hv : runV t l t.code.length with
    | none => exact Nat.zero_le _
    | some rs => have := (runV_ok ht h3 (Nat.le_refl _) hv).1; have := ht.size; show rs.length ≤ 3200; omega
  · exact Nat.zero_le _
theorem RRegistersOf_len (t : Tp) (l : List Int) (hs : tpSize t ≤ 1048576) (hl : l.length ≤ 1048576) : (RRegistersOf t l).length ≤ 1048576 := Nat.le_trans (RRegistersOf_le t l) (by omega)
theorem sl2_eq {a : Option Addr} {n m c : Nat} {z z' : Int} (h : n = m) (h2 : z = z') : Ending.returned (.tuple #[.slice a n c, .int .i64 z]) = .returned (.tuple #[.slice a m c, .int .i64 z']) := by rw [h, h2]

end Go.Proofs.Ytggojffmfjeikaa
