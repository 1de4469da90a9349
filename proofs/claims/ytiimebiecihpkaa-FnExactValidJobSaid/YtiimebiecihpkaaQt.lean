/- Calls that only draw. -/
import Derived.Deep.QuietTactic
import Derived.BigQuiet
import Derived.Test.YtiimebiecihpkaaBase
namespace Go.Proofs.Ytiimebiecihpkaa
open Go.RowKit
set_option linter.unusedVariables false

/-- The call only reads and draws. -/
def Qui (v : Value) (w : World) (e : Ending) (w' : World) : Prop := e = .returned v ∧ ∃ n, w' = w.drewN n
theorem qui_q {P : Program} {f : FuncId} {args : Array Value} {w : World} {n : Nat} {v : Value}
    (h : Calls P f args (w.drewN n) (Qui v (w.drewN n))) : Calls P f args (w.drewN n) fun e w'' => e = .returned v ∧ ∃ m, w'' = w.drewN m :=
  h.mono fun _ _ ⟨he, m, hm⟩ => ⟨he, n + m, by rw [hm, World.drewN_drewN]⟩
theorem qui_q2 {P : Program} {f : FuncId} {args : Array Value} {w : World} {a n : Nat} {v : Value}
    (h : Calls P f args (w.drewN (a + n)) (Qui v (w.drewN (a + n)))) : Calls P f args (w.drewN (a + n)) fun e w'' => e = .returned v ∧ ∃ m, w'' = w.drewN (a + m) :=
  h.mono fun _ _ ⟨he, m, hm⟩ => ⟨he, n + m, by rw [hm, World.drewN_drewN, Nat.add_assoc]⟩
theorem qui_id {P : Program} {f : FuncId} {args : Array Value} {w : World} {v : Value}
    (h : Calls P f args w fun e w' => e = .returned v ∧ w = w') : Calls P f args w (Qui v w) := h.mono fun _ _ ⟨he, hm⟩ => ⟨he, 0, hm.symm⟩
/-- the world is another one but for what was drawn -/
def Drw (w wr : World) : Prop := ∃ n, wr = w.drewN n
theorem Drw.refl (w : World) : Drw w w := ⟨0, rfl⟩
theorem Drw.more {w wr : World} (h : Drw w wr) (n : Nat) : Drw w (wr.drewN n) := by obtain ⟨m, rfl⟩ := h; exact ⟨m + n, by rw [World.drewN_drewN]⟩
theorem Drw.below {w wr : World} (h : Drw w wr) : Below w.heap.size w wr := by obtain ⟨m, rfl⟩ := h; exact below_drewN (Below.refl _ _) _
theorem Drw.trans {a b c : World} (h : Drw a b) (k : Drw b c) : Drw a c := by obtain ⟨m, rfl⟩ := k; exact h.more m
theorem Drw.size {w wr : World} (h : Drw w wr) : wr.heap.size = w.heap.size := by obtain ⟨m, rfl⟩ := h; rfl
theorem At.drw {w wr : World} {a : Option Addr} {l : List Int} (h : At w a l) (hd : Drw w wr) : At wr a l := h.below hd.below (Nat.le_refl _)
theorem Drw.cell {w wr : World} (h : Drw w wr) {a : Addr} : wr.cell? a = w.cell? a := by obtain ⟨m, rfl⟩ := h; rfl
end Go.Proofs.Ytiimebiecihpkaa
