/- Tapes: the sweep backwards over rows, by the model: plain functions. -/
import Derived.Test.YtggojffmfjeikaaTsr
namespace Go.Proofs.Ytggojffmfjeikaa
open Go.RowKit
set_option linter.unusedVariables false

def rAdd (adj : List (List Int)) (q : Nat) (v : List Int) : List (List Int) := adj.set q (addl (adj.getD q []) v)
def rSub (adj : List (List Int)) (q : Nat) (v : List Int) : List (List Int) := adj.set q (sub4 (adj.getD q []) v)
theorem rAdd_len (adj : List (List Int)) (q : Nat) (v : List Int) : (rAdd adj q v).length = adj.length := List.length_set ..
theorem rSub_len (adj : List (List Int)) (q : Nat) (v : List Int) : (rSub adj q v).length = adj.length := List.length_set ..
theorem sub4_len (a b : List Int) : (sub4 a b).length = a.length := addl_len _ _
theorem sub4_nums (a b : List Int) : Nums (sub4 a b) := addl_nums4 _ _
theorem rowsOk_set {n : Nat} {ls : List (List Int)} {q : Nat} {r : List Int} (h : RowsOk n ls) (h1 : r.length = n) (h2 : Nums r) : RowsOk n (ls.set q r) := by
  intro i hi
  rw [List.length_set] at hi
  by_cases hiq : i = q
  · subst hiq
    rw [List.getD_eq_getElem?_getD, List.getElem?_set_self hi]; exact ⟨h1, h2⟩
  · rw [List.getD_eq_getElem?_getD, List.getElem?_set_ne (fun e => hiq e.symm), ← List.getD_eq_getElem?_getD]; exact h i hi
theorem rowsOk_add {n : Nat} {ls : List (List Int)} {q : Nat} {v : List Int} (h : RowsOk n ls) (hq : q < ls.length) : RowsOk n (rAdd ls q v) :=
  rowsOk_set h ((addl_len _ _).trans (h q hq).1) (addl_nums4 _ _)
theorem rowsOk_sub {n : Nat} {ls : List (List Int)} {q : Nat} {v : List Int} (h : RowsOk n ls) (hq : q < ls.length) : RowsOk n (rSub ls q v) :=
  rowsOk_set h ((sub4_len _ _).trans (h q hq).1) (sub4_nums _ _)

/-- what an instruction adds to the adjoints of its operands -/
def sprS (x : In4) (i : Nat) (rs adj : List (List Int)) : List (List Int) :=
  if x.op = 3 then rAdd (rAdd adj x.a.toNat (adj.getD i [])) x.b.toNat (adj.getD i [])
  else if x.op = 4 then rSub (rAdd adj x.a.toNat (adj.getD i [])) x.b.toNat (adj.getD i [])
  else if x.op = 5 then rAdd (rAdd adj x.a.toNat (mull (adj.getD i []) (rs.getD x.b.toNat []))) x.b.toNat (mull (adj.getD i []) (rs.getD x.a.toNat []))
  else if x.op = 6 then rSub (rAdd adj x.a.toNat (divl (adj.getD i []) (rs.getD x.b.toNat []))) x.b.toNat (mull (divl (adj.getD i []) (rs.getD x.b.toNat [])) (rs.getD i []))
  else if x.op = 7 then rSub adj x.a.toNat (adj.getD i [])
  else adj
theorem sprS_len (x : In4) (i : Nat) (rs adj : List (List Int)) : (sprS x i rs adj).length = adj.length := by
  unfold sprS; split
  · rw [rAdd_len, rAdd_len]
  · split
    · rw [rSub_len, rAdd_len]
    · split
      · rw [rAdd_len, rAdd_len]
      · split
        · rw [rSub_len, rAdd_len]
        · split
          · rw [rSub_len]
          · rfl
/-- the sweep over the first k instructions, the last of them first -/
def swpS (t : Tp) (rs : List (List Int)) : Nat → List (List Int) → List (List Int)
  | 0, adj => adj
  | k + 1, adj => swpS t rs k (sprS (t.code.getD k no4) k rs adj)
/-- the weights of the first k outputs -/
def seedS (t : Tp) (ws : List Int) (n : Nat) : Nat → List (List Int)
  | 0 => List.replicate t.code.length (cstl 0 n)
  | k + 1 => rAdd (seedS t ws n k) (t.outs.getD k 0).toNat (cstl (ws.getD k 0) n)
theorem seedS_len (t : Tp) (ws : List Int) (n : Nat) : ∀ k, (seedS t ws n k).length = t.code.length
  | 0 => by simp [seedS]
  | k + 1 => by rw [seedS, rAdd_len]; exact seedS_len t ws n k
theorem swpS_len (t : Tp) (rs : List (List Int)) : ∀ (k : Nat) (adj : List (List Int)), (swpS t rs k adj).length = adj.length
  | 0, _ => rfl
  | k + 1, adj => by rw [swpS, swpS_len t rs k, sprS_len]
theorem seedS_ok {t : Tp} {ws : List Int} {n : Nat} (ht : Okt t) : ∀ k, k ≤ t.outs.length → RowsOk n (seedS t ws n k) := by
  intro k
  induction k with
  | zero =>
    intro _ i hi
    have hi' : i < t.code.length := by simpa [seedS] using hi
    have e : (seedS t ws n 0).getD i [] = cstl 0 n := by
      rw [seedS, List.getD_eq_getElem?_getD, List.getElem?_replicate, if_pos hi']; rfl
    rw [e]; exact ⟨cstl_len _ _, cstl_nums (by omega)⟩
  | succ k ih =>
    intro hk
    rw [seedS]
    refine rowsOk_add (ih (by omega)) ?_
    rw [seedS_len]
    have := ht.out k (by omega)
    omega
theorem sprS_ok {x : In4} {i : Nat} {inputs : Int} {n : Nat} {rs adj : List (List Int)} (hx : insB x i inputs = true) (ha : RowsOk n adj) (hi : i ≤ adj.length) : RowsOk n (sprS x i rs adj) := by
  unfold sprS
  rcases ins_reads hx with ⟨e, hn⟩ | ⟨e, hn⟩ | ⟨e, h1, h2⟩ | ⟨e, h1⟩
  · simp only [e]; exact ha
  · simp only [e]; exact ha
  · have q1 : x.a.toNat < adj.length := by omega
    have q2 : x.b.toNat < adj.length := by omega
    rcases e with e | e | e | e
    · rw [if_pos e]; exact rowsOk_add (rowsOk_add ha q1) (by rw [rAdd_len]; exact q2)
    · rw [if_neg (by omega), if_pos e]; exact rowsOk_sub (rowsOk_add ha q1) (by rw [rAdd_len]; exact q2)
    · rw [if_neg (by omega), if_neg (by omega), if_pos e]; exact rowsOk_add (rowsOk_add ha q1) (by rw [rAdd_len]; exact q2)
    · rw [if_neg (by omega), if_neg (by omega), if_neg (by omega), if_pos e]; exact rowsOk_sub (rowsOk_add ha q1) (by rw [rAdd_len]; exact q2)
  · rw [if_neg (by omega), if_neg (by omega), if_neg (by omega), if_neg (by omega), if_pos e]; exact rowsOk_sub ha (by omega)
/-- the adjoints of all registers -/
def adjS (t : Tp) (ws : List Int) (n : Nat) (rs : List (List Int)) : List (List Int) := swpS t rs t.code.length (seedS t ws n t.outs.length)
theorem adjS_len (t : Tp) (ws : List Int) (n : Nat) (rs : List (List Int)) : (adjS t ws n rs).length = t.code.length := by
  unfold adjS; rw [swpS_len, seedS_len]
theorem swpS_ok {t : Tp} {rs : List (List Int)} {n : Nat} (ht : Okt t) : ∀ (k : Nat) (adj : List (List Int)), k ≤ t.code.length → adj.length = t.code.length → RowsOk n adj → RowsOk n (swpS t rs k adj) := by
  intro k
  induction k with
  | zero => intro adj _ _ h; exact h
  | succ k ih =>
    intro adj hk hl h
    rw [swpS]
    exact ih _ (by omega) (by rw [sprS_len]; exact hl) (sprS_ok (ht.code k (by omega)) h (by omega))
theorem adjS_ok {t : Tp} {ws : List Int} {n : Nat} {rs : List (List Int)} (ht : Okt t) : RowsOk n (adjS t ws n rs) :=
  swpS_ok ht _ _ (Nat.le_refl _) (seedS_len _ _ _ _) (seedS_ok ht _ (Nat.le_refl _))

end Go.Proofs.Ytggojffmfjeikaa
