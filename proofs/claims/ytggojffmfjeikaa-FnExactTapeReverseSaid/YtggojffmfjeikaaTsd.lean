/- Tapes: what a sweep spreads to the operands of an instruction, by the program. -/
import Derived.Test.YtggojffmfjeikaaTad
namespace Go.Proofs.Ytggojffmfjeikaa
open Go.RowKit
set_option linter.unusedVariables false

theorem iAddN (B : Nat) (ar : Option Addr) (nr cr g cap n : Nat) (q : Int) (adj : List Int) (v : Int) (w : World) (ho : Own B w g cap adj) (hn : Hid (adj.length = n)) (hp : 0 ≤ q ∧ q < adj.length) (ha : Nums adj) (hv : 0 ≤ v ∧ v < 1000003) :
    Calls Try.prog 104 #[swv ar nr cr g n cap, .int .i64 q, .int .i64 v] w fun e w' => e = .returned (.tuple #[]) ∧ Own B w' g cap (vAdd adj q.toNat v) ∧ w.grownBy w' (some g) := by
  obtain ⟨p, rfl⟩ : ∃ p : Nat, q = (p : Int) := ⟨q.toNat, by omega⟩
  have e := hn.out
  subst e
  rw [Int.toNat_natCast]
  exact iAdd B ar nr cr g cap p adj v w ho (by omega) ha hv

/-- the cells of a sweep in a block of its own -/
structure Sbx (w : World) (b : Nat) (ar : Option Addr) (nr cr g na cap : Nat) : Prop where
  x0 : w.cell? ⟨b, 0, none⟩ = some ofN
  x1 : w.cell? ⟨b, 1, none⟩ = some (.slice ar nr cr)
  x2 : w.cell? ⟨b, 2, none⟩ = some (.slice (some ⟨g, 0, none⟩) na cap)
theorem Sbx.lt {w : World} {b : Nat} {ar : Option Addr} {nr cr g na cap : Nat} (h : Sbx w b ar nr cr g na cap) : b < w.heap.size := cell_lt h.x0
theorem Sbx.block {w w' : World} {b : Nat} {ar : Option Addr} {nr cr g na cap : Nat} (h : Sbx w b ar nr cr g na cap) (hb : w'.heap[b]? = w.heap[b]?) : Sbx w' b ar nr cr g na cap :=
  ⟨(World.cell?_of_block (a := ⟨b, 0, none⟩) hb).trans h.x0, (World.cell?_of_block (a := ⟨b, 1, none⟩) hb).trans h.x1, (World.cell?_of_block (a := ⟨b, 2, none⟩) hb).trans h.x2⟩
theorem Sbx.next {w w' : World} {b : Nat} {ar : Option Addr} {nr cr g na cap : Nat} (h : Sbx w b ar nr cr g na cap) (hb : Below w.heap.size w w') : Sbx w' b ar nr cr g na cap := h.block (hb.block b h.lt)
theorem Sbx.grown {w w' : World} {b : Nat} {ar : Option Addr} {nr cr g na cap g2 : Nat} (h : Sbx w b ar nr cr g na cap) (hb : w.grownBy w' (some g2)) (hn : b ≠ g2) : Sbx w' b ar nr cr g na cap := h.block (hb.block b h.lt (fun e => hn (by cases e; rfl)))
/-- the cells of an instruction in a block of its own -/
structure Ibx (w : World) (b : Nat) (x : In4) : Prop where
  i0 : w.cell? ⟨b, 0, none⟩ = some (.int .i64 x.op)
  i1 : w.cell? ⟨b, 1, none⟩ = some (.int .i64 x.a)
  i2 : w.cell? ⟨b, 2, none⟩ = some (.int .i64 x.b)
  i3 : w.cell? ⟨b, 3, none⟩ = some (.int .i64 x.num)
theorem Ibx.lt {w : World} {b : Nat} {x : In4} (h : Ibx w b x) : b < w.heap.size := cell_lt h.i0
theorem Ibx.block {w w' : World} {b : Nat} {x : In4} (h : Ibx w b x) (hb : w'.heap[b]? = w.heap[b]?) : Ibx w' b x :=
  ⟨(World.cell?_of_block (a := ⟨b, 0, none⟩) hb).trans h.i0, (World.cell?_of_block (a := ⟨b, 1, none⟩) hb).trans h.i1, (World.cell?_of_block (a := ⟨b, 2, none⟩) hb).trans h.i2, (World.cell?_of_block (a := ⟨b, 3, none⟩) hb).trans h.i3⟩
theorem Ibx.next {w w' : World} {b : Nat} {x : In4} (h : Ibx w b x) (hb : Below w.heap.size w w') : Ibx w' b x := h.block (hb.block b h.lt)
theorem Ibx.grown {w w' : World} {b g2 : Nat} {x : In4} (h : Ibx w b x) (hb : w.grownBy w' (some g2)) (hn : b ≠ g2) : Ibx w' b x := h.block (hb.block b h.lt (fun e => hn (by cases e; rfl)))
theorem grown_below {a b c : World} {g : Nat} (h : a.grownBy b (some g)) (hb : Below b.heap.size b c) : a.grownBy c (some g) := by
  have h2 := below_grownBy hb
  exact grownBy_trans h ⟨h2.os, h2.tape, h2.output, h2.size, fun k hk hne => h2.block k hk (fun e => by cases e)⟩
theorem below_grown_some {a b : World} {g : Nat} (hb : Below a.heap.size a b) : a.grownBy b (some g) := by
  have h2 := below_grownBy hb
  exact ⟨h2.os, h2.tape, h2.output, h2.size, fun k hk hne => h2.block k hk (fun e => by cases e)⟩

set_option maxRecDepth 100000 in
set_option maxHeartbeats 6400000 in
theorem iSpread (B : Nat) (ar : Option Addr) (cr g cap : Nat) (x : In4) (i : Nat) (inputs : Int) (rs adj : List Int) (w : World) (hx : insB x i inputs = true) (ho : Own B w g cap adj) (hr : Rw w g ar rs) (hrl : Hid (rs.length = adj.length)) (hi : i < adj.length) (hnr : Nums rs) (hna : Nums adj) :
    Calls Try.prog 105 #[swv ar rs.length cr g adj.length cap, .agg #[.int .i64 x.op, .int .i64 x.a, .int .i64 x.b, .int .i64 x.num], .int .i64 (rs.getD i 0), .int .i64 (adj.getD i 0)] w fun e w' => e = .returned (.tuple #[]) ∧ Own B w' g cap (sprV x i rs adj) ∧ w.grownBy w' (some g) := by
  unfold swv
  obtain ⟨w0, hw0⟩ : ∃ w0, w0 = w.alloc (.cells #[ofN, .slice ar rs.length cr, .slice (some ⟨g, 0, none⟩) adj.length cap] 145) := ⟨_, rfl⟩
  obtain ⟨wb, hwb⟩ : ∃ wb, wb = w0.alloc (.cells #[.int .i64 x.op, .int .i64 x.a, .int .i64 x.b, .int .i64 x.num] 85) := ⟨_, rfl⟩
  have A0 : Below w.heap.size w w0 := by rw [hw0]; exact (Below.refl _ _).alloc (Nat.le_refl _) _
  have Ab : Below w0.heap.size w0 wb := by rw [hwb]; exact (Below.refl _ _).alloc (Nat.le_refl _) _
  have AB := A0.trans (Ab.mono A0.size)
  have S0 : Sbx wb w.heap.size ar rs.length cr g adj.length cap := Sbx.next (w := w0) (by rw [hw0]; exact ⟨by simp [go_sem], by simp [go_sem], by simp [go_sem]⟩) Ab
  have I0 : Ibx wb w0.heap.size x := by rw [hwb]; exact ⟨by simp [go_sem], by simp [go_sem], by simp [go_sem], by simp [go_sem]⟩
  have z0 : w0.heap.size = w.heap.size + 1 := by rw [hw0]; simp
  have hgw := ho.base.2
  have ls := S0.lt
  have li := I0.lt
  have hsg : w.heap.size ≠ g := by omega
  have hig : w0.heap.size ≠ g := by omega
  have HO := Lib.hid (ho.kept AB hgw)
  have HR := Lib.hid (hr.next AB)
  have HG := Lib.hid (below_grown_some (g := g) AB)
  have hai := hna.at i
  have hri := hnr.at i
  have n1 := negAhead
  have n2 := negMeth
  have n3 := timesMeth
  have n4 := timesAhead
  have n5 := overMeth
  have n6 := overAhead
  obtain ⟨s0, s1, s2⟩ := id S0
  obtain ⟨i0, i1, i2, i3⟩ := id I0
  have HN := Lib.hid hna
  clear ho hr AB A0 Ab
  obtain ⟨va, hva⟩ : ∃ v, v = adj.getD i 0 := ⟨_, rfl⟩
  obtain ⟨vr, hvr⟩ : ∃ v, v = rs.getD i 0 := ⟨_, rfl⟩
  rw [← hva] at hai ⊢
  rw [← hvr] at hri ⊢
  have HVA := Lib.hid hva
  have HVR := Lib.hid hvr
  clear hva hvr
  rcases ins_reads hx with ⟨e, hn⟩ | ⟨e, hn⟩ | ⟨e, ha, hb⟩ | ⟨e, ha⟩
  ·
    have HS : Hid (sprV x i rs adj = adj) := by show _ = _; unfold sprV; simp [e]
    clear hx
    obtain ⟨o, xa, xb, xn⟩ := x
    simp only at *
    subst e
    go_enter Try.func105, Try.ntmps105
    go_wp2_with fail
    rw [← hw0, ← z0]
    rw [← hwb]
    clear hw0 hwb z0
    clear s0 s1 s2 i0 i1 i2 i3
    go_wp2_with fail
    go_end0
    exact ⟨rfl, by rw [HS.out]; exact HO.out, HG.out⟩
  ·
    have HS : Hid (sprV x i rs adj = adj) := by show _ = _; unfold sprV; simp [e]
    clear hx
    obtain ⟨o, xa, xb, xn⟩ := x
    simp only at *
    subst e
    go_enter Try.func105, Try.ntmps105
    go_wp2_with fail
    rw [← hw0, ← z0]
    rw [← hwb]
    clear hw0 hwb z0
    clear s0 s1 s2 i0 i1 i2 i3
    go_wp2_with fail
    go_end0
    exact ⟨rfl, by rw [HS.out]; exact HO.out, HG.out⟩
  ·
    have pa : x.a.toNat < adj.length := by omega
    have pb : x.b.toNat < adj.length := by omega
    rcases e with e | e | e | e
    · have HS : Hid (sprV x i rs adj = vAdd (vAdd adj x.a.toNat va) x.b.toNat va) := by show _ = _; unfold sprV; rw [HVA.out]; simp [e]
      clear hx
      obtain ⟨o, xa, xb, xn⟩ := x
      simp only at *
      subst e
      go_enter Try.func105, Try.ntmps105
      go_wp2_with fail
      rw [← hw0, ← z0]
      rw [← hwb]
      clear hw0 hwb z0
      refine (iAddN B ar rs.length cr g cap adj.length xa adj va _ HO.out (by show _ = _; rfl) (by omega) HN.out hai).mono ?_; rintro e w1 ⟨rfl, ho1, hg1⟩
      clear s0 s1 s2 i0 i1 i2 i3
      have S1 := S0.grown hg1 hsg
      have I1 := I0.grown hg1 hig
      have G1 := Lib.hid (grownBy_trans HG.out hg1)
      obtain ⟨s0, s1, s2⟩ := id S1
      obtain ⟨i0, i1, i2, i3⟩ := id I1
      go_wp2_with fail
      refine (iAddN B ar rs.length cr g cap adj.length xb (vAdd adj xa.toNat va) va _ ho1 (by show _ = _; rw [vAdd_len]) (by rw [vAdd_len]; omega) (nums_add HN.out) hai).mono ?_; rintro e w2 ⟨rfl, ho2, hg2⟩
      clear s0 s1 s2 i0 i1 i2 i3
      have S2 := S1.grown hg2 hsg
      have I2 := I1.grown hg2 hig
      have G2 := Lib.hid (grownBy_trans G1.out hg2)
      obtain ⟨s0, s1, s2⟩ := id S2
      obtain ⟨i0, i1, i2, i3⟩ := id I2
      clear s0 s1 s2 i0 i1 i2 i3
      go_wp2_with fail
      go_end0
      exact ⟨rfl, by rw [HS.out]; exact ho2, G2.out⟩
    · have HS : Hid (sprV x i rs adj = vAdd (vAdd adj x.a.toNat va) x.b.toNat (mns 0 va)) := by show _ = _; unfold sprV; rw [HVA.out, vAdd_neg]; simp [e]
      clear hx
      obtain ⟨o, xa, xb, xn⟩ := x
      simp only at *
      subst e
      go_enter Try.func105, Try.ntmps105
      go_wp2_with fail
      rw [← hw0, ← z0]
      rw [← hwb]
      clear hw0 hwb z0
      refine (iAddN B ar rs.length cr g cap adj.length xa adj va _ HO.out (by show _ = _; rfl) (by omega) HN.out hai).mono ?_; rintro e w1 ⟨rfl, ho1, hg1⟩
      clear s0 s1 s2 i0 i1 i2 i3
      have S1 := S0.grown hg1 hsg
      have I1 := I0.grown hg1 hig
      have G1 := Lib.hid (grownBy_trans HG.out hg1)
      obtain ⟨s0, s1, s2⟩ := id S1
      obtain ⟨i0, i1, i2, i3⟩ := id I1
      have Sw1lt := S1.lt
      have Iw1lt := I1.lt
      have lgw1 : g < w1.heap.size := ho1.base.2
      go_wp2_with fail
      go_region_held3 (fun w' => w'.cell? ⟨w.heap.size, 0, none⟩ = some (ofN) ∧ w'.cell? ⟨w.heap.size, 1, none⟩ = some (.slice ar rs.length cr) ∧ w'.cell? ⟨w.heap.size, 2, none⟩ = some (.slice (some ⟨g, 0, none⟩) adj.length cap) ∧ w'.cell? ⟨w0.heap.size, 2, none⟩ = some (.int .i64 xb))
        (first
          | exact ⟨(World.cell?_of_block (a := ⟨w.heap.size, 0, none⟩) (hg9.block _ (Nat.lt_of_lt_of_le Sw1lt hb8.size) (fun e => hsg (by cases e; rfl)))).trans ((hb8.cell (p := ⟨w.heap.size, 0, none⟩) Sw1lt).trans s0), (World.cell?_of_block (a := ⟨w.heap.size, 1, none⟩) (hg9.block _ (Nat.lt_of_lt_of_le Sw1lt hb8.size) (fun e => hsg (by cases e; rfl)))).trans ((hb8.cell (p := ⟨w.heap.size, 1, none⟩) Sw1lt).trans s1), (World.cell?_of_block (a := ⟨w.heap.size, 2, none⟩) (hg9.block _ (Nat.lt_of_lt_of_le Sw1lt hb8.size) (fun e => hsg (by cases e; rfl)))).trans ((hb8.cell (p := ⟨w.heap.size, 2, none⟩) Sw1lt).trans s2), (World.cell?_of_block (a := ⟨w0.heap.size, 2, none⟩) (hg9.block _ (Nat.lt_of_lt_of_le Iw1lt hb8.size) (fun e => hig (by cases e; rfl)))).trans ((hb8.cell (p := ⟨w0.heap.size, 2, none⟩) Iw1lt).trans i2)⟩
          | exact ⟨(hb8.cell (p := ⟨w.heap.size, 0, none⟩) Sw1lt).trans s0, (hb8.cell (p := ⟨w.heap.size, 1, none⟩) Sw1lt).trans s1, (hb8.cell (p := ⟨w.heap.size, 2, none⟩) Sw1lt).trans s2, (hb8.cell (p := ⟨w0.heap.size, 2, none⟩) Iw1lt).trans i2⟩
          | exact ⟨s0, s1, s2, i2⟩
          | go_keep)
        (first
          | (go_at_call 104; refine (iAddN B ar rs.length cr g cap adj.length xb (vAdd adj xa.toNat va) (mns 0 va) _ (ho1.kept hb8 lgw1) (by show _ = _; rw [vAdd_len]) (by rw [vAdd_len]; omega) (nums_add HN.out) (mns_bd _ _)).mono ?_; rintro e w9 ⟨rfl, ho9, hg9⟩)
          | (go_at_call 144; refine (nNeg va hai _).mono ?_; rintro e w8 ⟨rfl, hb8'⟩; have hb8 : Below w1.heap.size w1 w8 := ⟨hb8'.os, hb8'.tape, hb8'.output, hb8'.size, hb8'.block⟩))
      all_goals
        go_wp2_with fail
        go_end0
        exact ⟨rfl, by rw [HS.out]; exact ho9, grownBy_trans (grown_below G1.out hb8) hg9⟩
    · have HS : Hid (sprV x i rs adj = vAdd (vAdd adj x.a.toNat (tms va (rs.getD x.b.toNat 0))) x.b.toNat (tms va (rs.getD x.a.toNat 0))) := by show _ = _; unfold sprV; rw [HVA.out]; simp [e]
      clear hx
      obtain ⟨o, xa, xb, xn⟩ := x
      simp only at *
      subst e
      obtain ⟨p, rfl⟩ : ∃ q : Nat, xa = (q : Int) := ⟨xa.toNat, by omega⟩
      obtain ⟨q, rfl⟩ : ∃ q : Nat, xb = (q : Int) := ⟨xb.toNat, by omega⟩
      rw [Int.toNat_natCast] at pa pb
      simp only [Int.toNat_natCast] at HS
      have hpr : p < rs.length := by have := hrl.out; omega
      have hqr : q < rs.length := by have := hrl.out; omega
      have hpi : (p : Int) < (rs.length : Int) := by omega
      have hqi : (q : Int) < (rs.length : Int) := by omega
      obtain ⟨br, oo, rfl, hbr, hrg, hrc⟩ := HR.out.resolve_left (by intro e; rw [e] at hpr; simp at hpr)
      have fq := hrc q hqr
      have fp := hrc p hpr
      have yq := hnr.at q
      have yp := hnr.at p
      have lgwb : g < wb.heap.size := HO.out.base.2
      have Swblt := ls
      have Iwblt := li
      clear hrc HR
      generalize rs.getD q 0 = y at *
      generalize rs.getD p 0 = z at *
      go_enter Try.func105, Try.ntmps105
      go_wp2_with fail
      rw [← hw0, ← z0]
      rw [← hwb]
      clear hw0 hwb z0
      go_region_held3 (fun w' => w'.cell? ⟨w.heap.size, 0, none⟩ = some (ofN) ∧ w'.cell? ⟨w.heap.size, 1, none⟩ = some (.slice (some ⟨br, oo, none⟩) rs.length cr) ∧ w'.cell? ⟨w.heap.size, 2, none⟩ = some (.slice (some ⟨g, 0, none⟩) adj.length cap) ∧ w'.cell? ⟨w0.heap.size, 1, none⟩ = some (.int .i64 (p : Int)) ∧ w'.cell? ⟨w0.heap.size, 2, none⟩ = some (.int .i64 (q : Int)) ∧ w'.cell? ⟨br, oo + q, none⟩ = some (.int .i64 y))
        (first
          | exact ⟨(World.cell?_of_block (a := ⟨w.heap.size, 0, none⟩) (hg9.block _ (Nat.lt_of_lt_of_le Swblt hb8.size) (fun e => hsg (by cases e; rfl)))).trans ((hb8.cell (p := ⟨w.heap.size, 0, none⟩) Swblt).trans s0), (World.cell?_of_block (a := ⟨w.heap.size, 1, none⟩) (hg9.block _ (Nat.lt_of_lt_of_le Swblt hb8.size) (fun e => hsg (by cases e; rfl)))).trans ((hb8.cell (p := ⟨w.heap.size, 1, none⟩) Swblt).trans s1), (World.cell?_of_block (a := ⟨w.heap.size, 2, none⟩) (hg9.block _ (Nat.lt_of_lt_of_le Swblt hb8.size) (fun e => hsg (by cases e; rfl)))).trans ((hb8.cell (p := ⟨w.heap.size, 2, none⟩) Swblt).trans s2), (World.cell?_of_block (a := ⟨w0.heap.size, 1, none⟩) (hg9.block _ (Nat.lt_of_lt_of_le Iwblt hb8.size) (fun e => hig (by cases e; rfl)))).trans ((hb8.cell (p := ⟨w0.heap.size, 1, none⟩) Iwblt).trans i1), (World.cell?_of_block (a := ⟨w0.heap.size, 2, none⟩) (hg9.block _ (Nat.lt_of_lt_of_le Iwblt hb8.size) (fun e => hig (by cases e; rfl)))).trans ((hb8.cell (p := ⟨w0.heap.size, 2, none⟩) Iwblt).trans i2), (World.cell?_of_block (a := ⟨br, oo + q, none⟩) (hg9.block _ (Nat.lt_of_lt_of_le hbr hb8.size) (fun e => hrg (by cases e; rfl)))).trans ((hb8.cell (p := ⟨br, oo + q, none⟩) hbr).trans fq)⟩
          | exact ⟨(hb8.cell (p := ⟨w.heap.size, 0, none⟩) Swblt).trans s0, (hb8.cell (p := ⟨w.heap.size, 1, none⟩) Swblt).trans s1, (hb8.cell (p := ⟨w.heap.size, 2, none⟩) Swblt).trans s2, (hb8.cell (p := ⟨w0.heap.size, 1, none⟩) Iwblt).trans i1, (hb8.cell (p := ⟨w0.heap.size, 2, none⟩) Iwblt).trans i2, (hb8.cell (p := ⟨br, oo + q, none⟩) hbr).trans fq⟩
          | exact ⟨s0, s1, s2, i1, i2, fq⟩
          | go_keep)
        (first
          | (go_at_call 104; refine (iAddN B (some ⟨br, oo, none⟩) rs.length cr g cap adj.length (p : Int) adj (tms va y) _ (HO.out.kept hb8 lgwb) (by show _ = _; rfl) (by omega) HN.out (tms_bd _ _)).mono ?_; rintro e w9 ⟨rfl, ho9, hg9⟩)
          | (go_at_call 147; refine (nTimes va y hai yq _).mono ?_; rintro e w8 ⟨rfl, hb8'⟩; have hb8 : Below wb.heap.size wb w8 := ⟨hb8'.os, hb8'.tape, hb8'.output, hb8'.size, hb8'.block⟩))
      all_goals
        rw [Int.toNat_natCast] at ho9
        have hg19 := grown_below (below_grown_some (g := g) (Below.refl _ wb)) hb8
        have G9 := Lib.hid (grownBy_trans (grown_below HG.out hb8) hg9)
        have S9 := (S0.next hb8).grown hg9 hsg
        have I9 := (I0.next hb8).grown hg9 hig
        have fp9 := (World.cell?_of_block (a := ⟨br, oo + p, none⟩) (hg9.block _ (Nat.lt_of_lt_of_le hbr hb8.size) (fun e => hrg (by cases e; rfl)))).trans ((hb8.cell (p := ⟨br, oo + p, none⟩) hbr).trans fp)
        have hbr9 : br < w9.heap.size := Nat.lt_of_lt_of_le hbr (Nat.le_trans hb8.size hg9.size)
        have lgw9 : g < w9.heap.size := ho9.base.2
        clear s0 s1 s2 i0 i1 i2 i3 fq fp hg19
        obtain ⟨s0, s1, s2⟩ := id S9
        obtain ⟨i0, i1, i2, i3⟩ := id I9
        have Sw9lt := S9.lt
        have Iw9lt := I9.lt
        go_wp2_with fail
        go_region_held3 (fun w' => w'.cell? ⟨w.heap.size, 0, none⟩ = some (ofN) ∧ w'.cell? ⟨w.heap.size, 1, none⟩ = some (.slice (some ⟨br, oo, none⟩) rs.length cr) ∧ w'.cell? ⟨w.heap.size, 2, none⟩ = some (.slice (some ⟨g, 0, none⟩) adj.length cap) ∧ w'.cell? ⟨w0.heap.size, 1, none⟩ = some (.int .i64 (p : Int)) ∧ w'.cell? ⟨w0.heap.size, 2, none⟩ = some (.int .i64 (q : Int)) ∧ w'.cell? ⟨br, oo + p, none⟩ = some (.int .i64 z))
          (first
            | exact ⟨(World.cell?_of_block (a := ⟨w.heap.size, 0, none⟩) (hg9b.block _ (Nat.lt_of_lt_of_le Sw9lt hb8b.size) (fun e => hsg (by cases e; rfl)))).trans ((hb8b.cell (p := ⟨w.heap.size, 0, none⟩) Sw9lt).trans s0), (World.cell?_of_block (a := ⟨w.heap.size, 1, none⟩) (hg9b.block _ (Nat.lt_of_lt_of_le Sw9lt hb8b.size) (fun e => hsg (by cases e; rfl)))).trans ((hb8b.cell (p := ⟨w.heap.size, 1, none⟩) Sw9lt).trans s1), (World.cell?_of_block (a := ⟨w.heap.size, 2, none⟩) (hg9b.block _ (Nat.lt_of_lt_of_le Sw9lt hb8b.size) (fun e => hsg (by cases e; rfl)))).trans ((hb8b.cell (p := ⟨w.heap.size, 2, none⟩) Sw9lt).trans s2), (World.cell?_of_block (a := ⟨w0.heap.size, 1, none⟩) (hg9b.block _ (Nat.lt_of_lt_of_le Iw9lt hb8b.size) (fun e => hig (by cases e; rfl)))).trans ((hb8b.cell (p := ⟨w0.heap.size, 1, none⟩) Iw9lt).trans i1), (World.cell?_of_block (a := ⟨w0.heap.size, 2, none⟩) (hg9b.block _ (Nat.lt_of_lt_of_le Iw9lt hb8b.size) (fun e => hig (by cases e; rfl)))).trans ((hb8b.cell (p := ⟨w0.heap.size, 2, none⟩) Iw9lt).trans i2), (World.cell?_of_block (a := ⟨br, oo + p, none⟩) (hg9b.block _ (Nat.lt_of_lt_of_le hbr9 hb8b.size) (fun e => hrg (by cases e; rfl)))).trans ((hb8b.cell (p := ⟨br, oo + p, none⟩) hbr9).trans fp9)⟩
            | exact ⟨(hb8b.cell (p := ⟨w.heap.size, 0, none⟩) Sw9lt).trans s0, (hb8b.cell (p := ⟨w.heap.size, 1, none⟩) Sw9lt).trans s1, (hb8b.cell (p := ⟨w.heap.size, 2, none⟩) Sw9lt).trans s2, (hb8b.cell (p := ⟨w0.heap.size, 1, none⟩) Iw9lt).trans i1, (hb8b.cell (p := ⟨w0.heap.size, 2, none⟩) Iw9lt).trans i2, (hb8b.cell (p := ⟨br, oo + p, none⟩) hbr9).trans fp9⟩
            | exact ⟨s0, s1, s2, i1, i2, fp9⟩
            | go_keep)
          (first
            | (go_at_call 104; refine (iAddN B (some ⟨br, oo, none⟩) rs.length cr g cap adj.length (q : Int) (vAdd adj p (tms va y)) (tms va z) _ (ho9.kept hb8b lgw9) (by show _ = _; rw [vAdd_len]) (by rw [vAdd_len]; omega) (nums_add HN.out) (tms_bd _ _)).mono ?_; rintro e w9b ⟨rfl, ho9b, hg9b⟩)
            | (go_at_call 147; refine (nTimes va z hai yp _).mono ?_; rintro e w8b ⟨rfl, hb8b'⟩; have hb8b : Below w9.heap.size w9 w8b := ⟨hb8b'.os, hb8b'.tape, hb8b'.output, hb8b'.size, hb8b'.block⟩))
        all_goals
          rw [Int.toNat_natCast] at ho9b
          go_wp2_with fail
          go_end0
          exact ⟨rfl, by rw [HS.out]; exact ho9b, grownBy_trans (grown_below G9.out hb8b) hg9b⟩
    · have HS : Hid (sprV x i rs adj = vAdd (vAdd adj x.a.toNat (tms va (inv (rs.getD x.b.toNat 0)))) x.b.toNat (mns 0 (tms (tms va (inv (rs.getD x.b.toNat 0))) vr))) := by show _ = _; unfold sprV; rw [HVA.out, HVR.out, vAdd_neg]; simp [e]
      clear hx
      obtain ⟨o, xa, xb, xn⟩ := x
      simp only at *
      subst e
      obtain ⟨q, rfl⟩ : ∃ q : Nat, xb = (q : Int) := ⟨xb.toNat, by omega⟩
      rw [Int.toNat_natCast] at pb
      simp only [Int.toNat_natCast] at HS
      have hqr : q < rs.length := by have := hrl.out; omega
      have hqi : (q : Int) < (rs.length : Int) := by omega
      obtain ⟨br, oo, rfl, hbr, hrg, hrc⟩ := HR.out.resolve_left (by intro e; rw [e] at hqr; simp at hqr)
      have fq := hrc q hqr
      have yq := hnr.at q
      have Swblt := ls
      have Iwblt := li
      clear hrc HR
      generalize rs.getD q 0 = y at *
      go_enter Try.func105, Try.ntmps105
      go_wp2_with fail
      rw [← hw0, ← z0]
      rw [← hwb]
      clear hw0 hwb z0
      go_region_held3 (fun w' => w'.cell? ⟨w.heap.size, 0, none⟩ = some (ofN) ∧ w'.cell? ⟨w.heap.size, 1, none⟩ = some (.slice (some ⟨br, oo, none⟩) rs.length cr) ∧ w'.cell? ⟨w0.heap.size, 2, none⟩ = some (.int .i64 (q : Int)) ∧ w'.cell? ⟨br, oo + q, none⟩ = some (.int .i64 y))
        (first
          | exact ⟨(hb8.cell (p := ⟨w.heap.size, 0, none⟩) Swblt).trans s0, (hb8.cell (p := ⟨w.heap.size, 1, none⟩) Swblt).trans s1, (hb8.cell (p := ⟨w0.heap.size, 2, none⟩) Iwblt).trans i2, (hb8.cell (p := ⟨br, oo + q, none⟩) hbr).trans fq⟩
          | exact ⟨s0, s1, i2, fq⟩
          | go_keep)
        (first
          | (go_at_call 145; refine (nOver va y hai yq _).mono ?_; rintro e w8 ⟨rfl, hb8'⟩; have hb8 : Below wb.heap.size wb w8 := ⟨hb8'.os, hb8'.tape, hb8'.output, hb8'.size, hb8'.block⟩))
      all_goals
        have hsh := tms_bd va (inv y)
        generalize tms va (inv y) = sh at *
        have S8 := S0.next hb8
        have I8 := I0.next hb8
        have ho8 := HO.out.kept hb8 HO.out.base.2
        have G8 := Lib.hid (grown_below HG.out hb8)
        clear s0 s1 s2 i0 i1 i2 i3 fq
        obtain ⟨s0, s1, s2⟩ := id S8
        obtain ⟨i0, i1, i2, i3⟩ := id I8
        go_wp2_with fail
        refine (iAddN B (some ⟨br, oo, none⟩) rs.length cr g cap adj.length xa adj sh _ ho8 (by show _ = _; rfl) (by omega) HN.out hsh).mono ?_; rintro e w1 ⟨rfl, ho1, hg1⟩
        clear s0 s1 s2 i0 i1 i2 i3
        have S1 := S8.grown hg1 hsg
        have I1 := I8.grown hg1 hig
        have G1 := Lib.hid (grownBy_trans G8.out hg1)
        obtain ⟨s0, s1, s2⟩ := id S1
        obtain ⟨i0, i1, i2, i3⟩ := id I1
        have Sw1lt := S1.lt
        have Iw1lt := I1.lt
        have lgw1 : g < w1.heap.size := ho1.base.2
        go_wp2_with fail
        go_region_held3 (fun w' => w'.cell? ⟨w.heap.size, 0, none⟩ = some (ofN) ∧ w'.cell? ⟨w.heap.size, 1, none⟩ = some (.slice (some ⟨br, oo, none⟩) rs.length cr) ∧ w'.cell? ⟨w.heap.size, 2, none⟩ = some (.slice (some ⟨g, 0, none⟩) adj.length cap) ∧ w'.cell? ⟨w0.heap.size, 2, none⟩ = some (.int .i64 (q : Int)))
          (first
            | exact ⟨(World.cell?_of_block (a := ⟨w.heap.size, 0, none⟩) (hg9b.block _ (Nat.lt_of_lt_of_le Sw1lt hbc.size) (fun e => hsg (by cases e; rfl)))).trans ((hbc.cell (p := ⟨w.heap.size, 0, none⟩) Sw1lt).trans s0), (World.cell?_of_block (a := ⟨w.heap.size, 1, none⟩) (hg9b.block _ (Nat.lt_of_lt_of_le Sw1lt hbc.size) (fun e => hsg (by cases e; rfl)))).trans ((hbc.cell (p := ⟨w.heap.size, 1, none⟩) Sw1lt).trans s1), (World.cell?_of_block (a := ⟨w.heap.size, 2, none⟩) (hg9b.block _ (Nat.lt_of_lt_of_le Sw1lt hbc.size) (fun e => hsg (by cases e; rfl)))).trans ((hbc.cell (p := ⟨w.heap.size, 2, none⟩) Sw1lt).trans s2), (World.cell?_of_block (a := ⟨w0.heap.size, 2, none⟩) (hg9b.block _ (Nat.lt_of_lt_of_le Iw1lt hbc.size) (fun e => hig (by cases e; rfl)))).trans ((hbc.cell (p := ⟨w0.heap.size, 2, none⟩) Iw1lt).trans i2)⟩
            | exact ⟨(hbc.cell (p := ⟨w.heap.size, 0, none⟩) Sw1lt).trans s0, (hbc.cell (p := ⟨w.heap.size, 1, none⟩) Sw1lt).trans s1, (hbc.cell (p := ⟨w.heap.size, 2, none⟩) Sw1lt).trans s2, (hbc.cell (p := ⟨w0.heap.size, 2, none⟩) Iw1lt).trans i2⟩
            | exact ⟨(hba.cell (p := ⟨w.heap.size, 0, none⟩) Sw1lt).trans s0, (hba.cell (p := ⟨w.heap.size, 1, none⟩) Sw1lt).trans s1, (hba.cell (p := ⟨w.heap.size, 2, none⟩) Sw1lt).trans s2, (hba.cell (p := ⟨w0.heap.size, 2, none⟩) Iw1lt).trans i2⟩
            | exact ⟨s0, s1, s2, i2⟩
            | go_keep)
          (first
            | (go_at_call 104; refine (iAddN B (some ⟨br, oo, none⟩) rs.length cr g cap adj.length (q : Int) (vAdd adj xa.toNat sh) (mns 0 (tms sh vr)) _ (ho1.kept hbc lgw1) (by show _ = _; rw [vAdd_len]) (by rw [vAdd_len]; omega) (nums_add HN.out) (mns_bd _ _)).mono ?_; rintro e w9b ⟨rfl, ho9b, hg9b⟩)
            | (go_at_call 144; refine (nNeg (tms sh vr) (tms_bd _ _) _).mono ?_; rintro e wc ⟨rfl, hbc'⟩; have hbc : Below w1.heap.size w1 wc := hba.trans (hbc'.mono hba.size))
            | (go_at_call 147; refine (nTimes sh vr hsh hri _).mono ?_; rintro e wa ⟨rfl, hba'⟩; have hba : Below w1.heap.size w1 wa := ⟨hba'.os, hba'.tape, hba'.output, hba'.size, hba'.block⟩))
        all_goals
          rw [Int.toNat_natCast] at ho9b
          go_wp2_with fail
          go_end0
          exact ⟨rfl, by rw [HS.out]; exact ho9b, grownBy_trans (grown_below G1.out hbc) hg9b⟩
  ·
    have HS : Hid (sprV x i rs adj = vAdd adj x.a.toNat (mns 0 va)) := by show _ = _; unfold sprV; rw [HVA.out, vAdd_neg]; simp [e]
    clear hx
    obtain ⟨o, xa, xb, xn⟩ := x
    simp only at *
    subst e
    have Swblt := ls
    have Iwblt := li
    have lgwb : g < wb.heap.size := HO.out.base.2
    go_enter Try.func105, Try.ntmps105
    go_wp2_with fail
    rw [← hw0, ← z0]
    rw [← hwb]
    clear hw0 hwb z0
    go_region_held3 (fun w' => w'.cell? ⟨w.heap.size, 0, none⟩ = some (ofN) ∧ w'.cell? ⟨w.heap.size, 1, none⟩ = some (.slice ar rs.length cr) ∧ w'.cell? ⟨w.heap.size, 2, none⟩ = some (.slice (some ⟨g, 0, none⟩) adj.length cap) ∧ w'.cell? ⟨w0.heap.size, 1, none⟩ = some (.int .i64 xa))
      (first
        | exact ⟨(World.cell?_of_block (a := ⟨w.heap.size, 0, none⟩) (hg9.block _ (Nat.lt_of_lt_of_le Swblt hb8.size) (fun e => hsg (by cases e; rfl)))).trans ((hb8.cell (p := ⟨w.heap.size, 0, none⟩) Swblt).trans s0), (World.cell?_of_block (a := ⟨w.heap.size, 1, none⟩) (hg9.block _ (Nat.lt_of_lt_of_le Swblt hb8.size) (fun e => hsg (by cases e; rfl)))).trans ((hb8.cell (p := ⟨w.heap.size, 1, none⟩) Swblt).trans s1), (World.cell?_of_block (a := ⟨w.heap.size, 2, none⟩) (hg9.block _ (Nat.lt_of_lt_of_le Swblt hb8.size) (fun e => hsg (by cases e; rfl)))).trans ((hb8.cell (p := ⟨w.heap.size, 2, none⟩) Swblt).trans s2), (World.cell?_of_block (a := ⟨w0.heap.size, 1, none⟩) (hg9.block _ (Nat.lt_of_lt_of_le Iwblt hb8.size) (fun e => hig (by cases e; rfl)))).trans ((hb8.cell (p := ⟨w0.heap.size, 1, none⟩) Iwblt).trans i1)⟩
        | exact ⟨(hb8.cell (p := ⟨w.heap.size, 0, none⟩) Swblt).trans s0, (hb8.cell (p := ⟨w.heap.size, 1, none⟩) Swblt).trans s1, (hb8.cell (p := ⟨w.heap.size, 2, none⟩) Swblt).trans s2, (hb8.cell (p := ⟨w0.heap.size, 1, none⟩) Iwblt).trans i1⟩
        | exact ⟨s0, s1, s2, i1⟩
        | go_keep)
      (first
        | (go_at_call 104; refine (iAddN B ar rs.length cr g cap adj.length xa adj (mns 0 va) _ (HO.out.kept hb8 lgwb) (by show _ = _; rfl) (by omega) HN.out (mns_bd _ _)).mono ?_; rintro e w9 ⟨rfl, ho9, hg9⟩)
        | (go_at_call 144; refine (nNeg va hai _).mono ?_; rintro e w8 ⟨rfl, hb8'⟩; have hb8 : Below wb.heap.size wb w8 := ⟨hb8'.os, hb8'.tape, hb8'.output, hb8'.size, hb8'.block⟩))
    all_goals
      go_wp2_with fail
      go_end0
      exact ⟨rfl, by rw [HS.out]; exact ho9, grownBy_trans (grown_below HG.out hb8) hg9⟩

end Go.Proofs.Ytggojffmfjeikaa
