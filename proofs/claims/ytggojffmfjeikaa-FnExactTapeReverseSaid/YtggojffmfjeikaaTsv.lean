/- Tapes: the sweep backwards over numbers: plain functions. -/
import Derived.Test.YtggojffmfjeikaaTsw
namespace Go.Proofs.Ytggojffmfjeikaa
open Go.RowKit
set_option linter.unusedVariables false

def vAdd (adj : List Int) (q : Nat) (v : Int) : List Int := adj.set q (pls (adj.getD q 0) v)
def vSub (adj : List Int) (q : Nat) (v : Int) : List Int := adj.set q (mns (adj.getD q 0) v)
theorem vAdd_len (adj : List Int) (q : Nat) (v : Int) : (vAdd adj q v).length = adj.length := List.length_set ..
theorem vSub_len (adj : List Int) (q : Nat) (v : Int) : (vSub adj q v).length = adj.length := List.length_set ..
theorem pls_neg (a b : Int) : pls a (mns 0 b) = mns a b := by unfold pls mns; omega
theorem vAdd_neg (adj : List Int) (q : Nat) (v : Int) : vAdd adj q (mns 0 v) = vSub adj q v := by unfold vAdd vSub; rw [pls_neg]
theorem nums_set {l : List Int} {q : Nat} {x : Int} (h : Nums l) (hx : 0 ≤ x ∧ x < 1000003) : Nums (l.set q x) := by
  intro y hy
  rcases List.mem_or_eq_of_mem_set hy with h1 | h1
  · exact h y h1
  · rw [h1]; exact hx
theorem nums_add {l : List Int} {q : Nat} {v : Int} (h : Nums l) : Nums (vAdd l q v) := nums_set h (pls_bd _ _)
theorem nums_sub {l : List Int} {q : Nat} {v : Int} (h : Nums l) : Nums (vSub l q v) := nums_set h (mns_bd _ _)
theorem ones_set (l : List Int) (q : Nat) (v : Int) : ones (l.set q v) = (ones l).set q [v] := by unfold ones; rw [List.map_set]; rfl
theorem ones_add {l : List Int} {q : Nat} {v : Int} (h : q < l.length) : rAdd (ones l) q [v] = ones (vAdd l q v) := by
  unfold rAdd vAdd; rw [ones_at h, one_add, ones_set]
theorem ones_sub {l : List Int} {q : Nat} {v : Int} (h : q < l.length) : rSub (ones l) q [v] = ones (vSub l q v) := by
  unfold rSub vSub; rw [ones_at h, one_sub, ones_set]

def sprV (x : In4) (i : Nat) (rs adj : List Int) : List Int :=
  if x.op = 3 then vAdd (vAdd adj x.a.toNat (adj.getD i 0)) x.b.toNat (adj.getD i 0)
  else if x.op = 4 then vSub (vAdd adj x.a.toNat (adj.getD i 0)) x.b.toNat (adj.getD i 0)
  else if x.op = 5 then vAdd (vAdd adj x.a.toNat (tms (adj.getD i 0) (rs.getD x.b.toNat 0))) x.b.toNat (tms (adj.getD i 0) (rs.getD x.a.toNat 0))
  else if x.op = 6 then vSub (vAdd adj x.a.toNat (tms (adj.getD i 0) (inv (rs.getD x.b.toNat 0)))) x.b.toNat (tms (tms (adj.getD i 0) (inv (rs.getD x.b.toNat 0))) (rs.getD i 0))
  else if x.op = 7 then vSub adj x.a.toNat (adj.getD i 0)
  else adj
theorem sprV_len (x : In4) (i : Nat) (rs adj : List Int) : (sprV x i rs adj).length = adj.length := by
  unfold sprV; split
  · rw [vAdd_len, vAdd_len]
  · split
    · rw [vSub_len, vAdd_len]
    · split
      · rw [vAdd_len, vAdd_len]
      · split
        · rw [vSub_len, vAdd_len]
        · split
          · rw [vSub_len]
          · rfl
theorem sprV_nums {x : In4} {i : Nat} {rs adj : List Int} (h : Nums adj) : Nums (sprV x i rs adj) := by
  unfold sprV; split
  · exact nums_add (nums_add h)
  · split
    · exact nums_sub (nums_add h)
    · split
      · exact nums_add (nums_add h)
      · split
        · exact nums_sub (nums_add h)
        · split
          · exact nums_sub h
          · exact h
theorem sprV_ones {x : In4} {i : Nat} {inputs : Int} {rs adj : List Int} (hx : insB x i inputs = true) (hi : i < adj.length) (hr : rs.length = adj.length) : sprS x i (ones rs) (ones adj) = ones (sprV x i rs adj) := by
  unfold sprS sprV
  rcases ins_reads hx with ⟨e, hn⟩ | ⟨e, hn⟩ | ⟨e, h1, h2⟩ | ⟨e, h1⟩
  · simp only [e]; rfl
  · simp only [e]; rfl
  · have q1 : x.a.toNat < adj.length := by omega
    have q2 : x.b.toNat < adj.length := by omega
    have q3 : x.a.toNat < rs.length := by omega
    have q4 : x.b.toNat < rs.length := by omega
    have q5 : i < rs.length := by omega
    rw [ones_at hi, ones_at q3, ones_at q4, ones_at q5]
    rcases e with e | e | e | e
    · rw [if_pos e, if_pos e, ones_add q1, ones_add (by rw [vAdd_len]; exact q2)]
    · rw [if_neg (by omega), if_pos e, if_neg (by omega), if_pos e, ones_add q1, ones_sub (by rw [vAdd_len]; exact q2)]
    · rw [if_neg (by omega), if_neg (by omega), if_pos e, if_neg (by omega), if_neg (by omega), if_pos e, one_mul, one_mul, ones_add q1, ones_add (by rw [vAdd_len]; exact q2)]
    · rw [if_neg (by omega), if_neg (by omega), if_neg (by omega), if_pos e, if_neg (by omega), if_neg (by omega), if_neg (by omega), if_pos e, one_div, one_mul, ones_add q1, ones_sub (by rw [vAdd_len]; exact q2)]
  · have q1 : x.a.toNat < adj.length := by omega
    rw [if_neg (by omega), if_neg (by omega), if_neg (by omega), if_neg (by omega), if_pos e, if_neg (by omega), if_neg (by omega), if_neg (by omega), if_neg (by omega), if_pos e, ones_at hi, ones_sub q1]

def swpV (t : Tp) (rs : List Int) : Nat → List Int → List Int
  | 0, adj => adj
  | k + 1, adj => swpV t rs k (sprV (t.code.getD k no4) k rs adj)
def seedV (t : Tp) (ws : List Int) : Nat → List Int
  | 0 => List.replicate t.code.length 0
  | k + 1 => vAdd (seedV t ws k) (t.outs.getD k 0).toNat (ws.getD k 0)
def adjV (t : Tp) (ws rs : List Int) : List Int := swpV t rs t.code.length (seedV t ws t.outs.length)
theorem seedV_len (t : Tp) (ws : List Int) : ∀ k, (seedV t ws k).length = t.code.length
  | 0 => by simp [seedV]
  | k + 1 => by rw [seedV, vAdd_len]; exact seedV_len t ws k
theorem swpV_len (t : Tp) (rs : List Int) : ∀ (k : Nat) (adj : List Int), (swpV t rs k adj).length = adj.length
  | 0, _ => rfl
  | k + 1, adj => by rw [swpV, swpV_len t rs k, sprV_len]
theorem adjV_len (t : Tp) (ws rs : List Int) : (adjV t ws rs).length = t.code.length := by unfold adjV; rw [swpV_len, seedV_len]
theorem seedV_nums (t : Tp) (ws : List Int) : ∀ k, Nums (seedV t ws k)
  | 0 => fun y hy => by rw [(List.mem_replicate.1 hy).2]; omega
  | k + 1 => nums_add (seedV_nums t ws k)
theorem swpV_nums (t : Tp) (rs : List Int) : ∀ (k : Nat) (adj : List Int), Nums adj → Nums (swpV t rs k adj)
  | 0, _, h => h
  | k + 1, adj, h => swpV_nums t rs k _ (sprV_nums h)
theorem adjV_nums (t : Tp) (ws rs : List Int) : Nums (adjV t ws rs) := swpV_nums t rs _ _ (seedV_nums t ws _)
theorem seedV_ones {t : Tp} {ws : List Int} (ht : Okt t) : ∀ k, k ≤ t.outs.length → seedS t ws 1 k = ones (seedV t ws k)
  | 0, _ => by
    rw [seedS, seedV]; unfold ones; rw [List.map_replicate]
  | k + 1, hk => by
    rw [seedS, seedV, seedV_ones ht k (by omega)]
    show rAdd _ _ [ws.getD k 0] = _
    have := ht.out k (by omega)
    rw [ones_add (by rw [seedV_len]; omega)]
theorem swpV_ones {t : Tp} {rs : List Int} (ht : Okt t) (hr : rs.length = t.code.length) : ∀ (k : Nat) (adj : List Int), k ≤ t.code.length → adj.length = t.code.length → swpS t (ones rs) k (ones adj) = ones (swpV t rs k adj) := by
  intro k
  induction k with
  | zero => intro adj _ _; rfl
  | succ k ih =>
    intro adj hk hl
    rw [swpS, swpV, sprV_ones (ht.code k (by omega)) (by omega) (by omega)]
    exact ih _ (by omega) (by rw [sprV_len]; exact hl)
theorem adjV_ones {t : Tp} {ws rs : List Int} (ht : Okt t) (hr : rs.length = t.code.length) : adjS t ws 1 (ones rs) = ones (adjV t ws rs) := by
  unfold adjS adjV
  rw [seedV_ones ht _ (Nat.le_refl _), swpV_ones ht hr _ _ (Nat.le_refl _) (seedV_len _ _ _)]

/-- the code of a tape, arguments, weights and a direction -/
def wgC (t : Tp) (l ws d : List Int) : Int := if askC t l = 0 then (if ((ws.length : Int) = t.outs.length ∧ okNums ws = true) ∧ ((d.length : Int) = t.inputs ∧ okNums d = true) then 0 else 2) else askC t l
theorem wgC_bad {t : Tp} {l ws d : List Int} (h : askC t l ≠ 0) : wgC t l ws d = askC t l := if_neg h
theorem wgC_no {t : Tp} {l ws d : List Int} (h : askC t l = 0) (h2 : ¬ (((ws.length : Int) = t.outs.length ∧ okNums ws = true) ∧ ((d.length : Int) = t.inputs ∧ okNums d = true))) : wgC t l ws d = 2 := by unfold wgC; rw [if_pos h, if_neg h2]
theorem wgC_yes {t : Tp} {l ws d : List Int} (h : askC t l = 0) (h2 : ((ws.length : Int) = t.outs.length ∧ okNums ws = true) ∧ ((d.length : Int) = t.inputs ∧ okNums d = true)) : wgC t l ws d = 0 := by unfold wgC; rw [if_pos h, if_pos h2]
theorem wgC_zero {t : Tp} {l ws d : List Int} (h : wgC t l ws d = 0) : askC t l = 0 ∧ ws.length = t.outs.length ∧ Nums ws ∧ (d.length : Int) = t.inputs ∧ Nums d := by
  unfold wgC at h
  split at h
  · rename_i h0
    split at h
    · rename_i h2; exact ⟨h0, by omega, okNums_nums h2.1.2, h2.2.1, okNums_nums h2.2.2⟩
    · omega
  · rename_i h0; exact absurd h h0
def CAdjointsOf (t : Tp) (l ws : List Int) : Int := if wgC t l ws l = 0 then (if runV t l t.code.length = none then 6 else 0) else wgC t l ws l
def RAdjointsOf (t : Tp) (l ws : List Int) : List Int := if wgC t l ws l = 0 then ((runV t l t.code.length).map fun rs => adjV t ws rs).getD [] else []
theorem RAdjointsOf_le (t : Tp) (l ws : List Int) : (RAdjointsOf t l ws).length ≤ 3200 := by
  unfold RAdjointsOf
  split
  · rename_i h
    obtain ⟨h0, -, -, -, -⟩ := wgC_zero h
    obtain ⟨h1, -, -⟩ := askC_zero h0
    cases hv : runV t l t.code.length with
    | none => exact Nat.zero_le _
    | some rs => show (adjV t ws rs).length ≤ 3200; rw [adjV_len]; exact (tapeB_ok h1).size
  · exact Nat.zero_le _
theorem RAdjointsOf_len (t : Tp) (l ws : List Int) (hs : tpSize t ≤ 1048576) (hl : l.length ≤ 1048576) (hw : ws.length ≤ 1048576) : (RAdjointsOf t l ws).length ≤ 1048576 := Nat.le_trans (RAdjointsOf_le t l ws) (by omega)

end Go.Proofs.Ytggojffmfjeikaa
