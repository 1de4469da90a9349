/- Tapes: the adjoints of all registers, by the program. -/
import Derived.Test.YtggojffmfjeikaaTsd
import Derived.Test.YtggojffmfjeikaaRpt
import Derived.Test.YtggojffmfjeikaaTre
namespace Go.Proofs.Ytggojffmfjeikaa
open Go.RowKit
set_option linter.unusedVariables false

theorem rw_of {w w' : World} {g B : Nat} {a : Option Addr} {l : List Int} (h : Oat w 0 B l a) (hg : B ≤ g) (hB : B ≤ w'.heap.size) (hk : ∀ k, k < B → w'.heap[k]? = w.heap[k]?) : Rw w' g a l := by
  rcases h with h | ⟨b, off, h1, h2, h3⟩
  · exact .inl h
  · exact .inr ⟨b, off, h1, by omega, by omega, fun k hk' => (World.cell?_of_block (a := ⟨b, off + k, none⟩) (hk b h2.2)).trans (h3 k hk')⟩
theorem rw_row {w w' : World} {g : Nat} {a : Option Addr} {l : List Int} (h : At w a l) (hb : Below w.heap.size w w') (hg : w.heap.size ≤ g) : Rw w' g a l :=
  rw_of h.oat hg hb.size (fun k hk => hb.block k hk)
def RAdjW (t : Tp) (l ws : List Int) : List Int := ((runV t l t.code.length).map fun rs => adjV t ws rs).getD []
theorem adjW_none {t : Tp} {l ws : List Int} (h : runV t l t.code.length = none) : RAdjW t l ws = [] ∧ regC t l = 6 := by
  unfold RAdjW regC; rw [h]; exact ⟨rfl, if_pos rfl⟩
theorem adjW_some {t : Tp} {l ws rs : List Int} (h : runV t l t.code.length = some rs) : RAdjW t l ws = adjV t ws rs ∧ regC t l = 0 := by
  unfold RAdjW regC; rw [h]; exact ⟨rfl, if_neg (by simp)⟩
theorem grown_cell {w w' : World} {g b o : Nat} (h : w.grownBy w' (some g)) (hb : b < w.heap.size) (hne : b ≠ g) : w'.cell? ⟨b, o, none⟩ = w.cell? ⟨b, o, none⟩ :=
  World.cell?_of_block (a := ⟨b, o, none⟩) (h.block b hb (fun e => hne (by cases e; rfl)))
theorem vAdd_same {adj : List Int} {q i : Nat} {v : Int} (h : q ≠ i) : (vAdd adj q v).getD i 0 = adj.getD i 0 := by
  unfold vAdd; rw [List.getD_eq_getElem?_getD, List.getElem?_set_ne h, List.getD_eq_getElem?_getD]
theorem vSub_same {adj : List Int} {q i : Nat} {v : Int} (h : q ≠ i) : (vSub adj q v).getD i 0 = adj.getD i 0 := by
  unfold vSub; rw [List.getD_eq_getElem?_getD, List.getElem?_set_ne h, List.getD_eq_getElem?_getD]
theorem sprV_same {x : In4} {i : Nat} {inputs : Int} {rs adj : List Int} (hx : insB x i inputs = true) : (sprV x i rs adj).getD i 0 = adj.getD i 0 := by
  unfold sprV
  rcases ins_reads hx with ⟨e, hn⟩ | ⟨e, hn⟩ | ⟨e, ha, hb⟩ | ⟨e, ha⟩
  · simp only [e]; rfl
  · simp only [e]; rfl
  · have na : x.a.toNat ≠ i := by omega
    have nb : x.b.toNat ≠ i := by omega
    split
    · rw [vAdd_same nb, vAdd_same na]
    · split
      · rw [vSub_same nb, vAdd_same na]
      · split
        · rw [vAdd_same nb, vAdd_same na]
        · split
          · rw [vSub_same nb, vAdd_same na]
          · split
            · rw [vSub_same na]
            · rfl
  · have na : x.a.toNat ≠ i := by omega
    have h3 : ¬ x.op = 3 := by omega
    have h4 : ¬ x.op = 4 := by omega
    have h5 : ¬ x.op = 5 := by omega
    have h6 : ¬ x.op = 6 := by omega
    rw [if_neg h3, if_neg h4, if_neg h5, if_neg h6]
    split
    · rw [vSub_same na]
    · rename_i h7; exact absurd e h7
theorem drew_below (w : World) : Below w.heap.size w w.drew := ⟨rfl, rfl, rfl, Nat.le_refl _, fun _ _ => rfl⟩

set_option maxRecDepth 100000 in
set_option maxHeartbeats 6400000 in
theorem iAdjointsWith (t : Tp) (ac : Option Addr) (cc : Nat) (ag : Option Addr) (cg : Nat) (ao : Option Addr) (co : Nat) (a : Option Addr) (ca : Nat) (l : List Int) (aw : Option Addr) (cw : Nat) (ws : List Int) (w : World)
    (hP : Tat w 0 w.heap.size t ac ag ao) (ht : Okt t) (hA : At w a l) (hW : At w aw ws) (hl : l.length ≤ 1048576) (hin : t.inputs ≤ l.length) (hn : Nums l) (hwn : Nums ws) (hwl : Hid (ws.length = t.outs.length)) :
    Calls Try.prog 73 #[ofN, tpv t ac cc ag cg ao co, .slice a l.length ca, .slice aw ws.length cw] w (Res2 w (RAdjW t l ws) (regC t l)) := by
  unfold tpv
  obtain ⟨w0, hw0⟩ : ∃ w0, w0 = w.alloc (.cells #[.int .i64 t.inputs, .slice ac t.code.length cc, .slice ag t.guards.length cg, .slice ao t.outs.length co] 53) := ⟨_, rfl⟩
  have A0 : Below w.heap.size w w0 := by rw [hw0]; exact (Below.refl _ _).alloc (Nat.le_refl _) _
  have T0 : Tcl w0 w.heap.size t ac cc ag cg ao co := by rw [hw0]; exact tcl_new w t ac cc ag cg ao co 53
  have lt0 := Lib.hid (show w.heap.size < w0.heap.size by rw [hw0]; simp)
  have HR := iRegistersWith t ac cc ag cg ao co a ca l w0 (hP.next A0) ht (hA.below A0 (Nat.le_refl _)) hl hin hn
  unfold tpv at HR
  have hcs := ht.size
  have hos := ht.outs
  obtain ⟨c0, c1, c2, c3⟩ := id T0
  cases hv : runV t l t.code.length with
  | none =>
    obtain ⟨e1, e2⟩ := reg_none hv
    obtain ⟨e3, e4⟩ := adjW_none (ws := ws) hv
    rw [e1, e2] at HR
    rw [e3, e4]
    have HR := Lib.hid HR
    clear e1 e2 e3 e4 hv hP hA hW
    go_enter Try.func73, Try.ntmps73
    go_wp2_with fail
    rw [← hw0]
    clear hw0
    refine HR.out.mono ?_; rintro e w1 ⟨ar, cr, rfl, ho, b⟩
    have HB := A0.trans (b.mono A0.size)
    clear ho b c0 c1 c2 c3
    go_wp2_with fail
    go_ret2
    exact ⟨none, 0, rfl, .inl rfl, HB⟩
  | some rs =>
    obtain ⟨e1, e2⟩ := reg_some hv
    obtain ⟨e3, e4⟩ := adjW_some (ws := ws) hv
    obtain ⟨hrl, hrn⟩ := runV_ok ht hn (Nat.le_refl _) hv
    rw [e1, e2] at HR
    rw [e3, e4]
    have HR := Lib.hid HR
    have HRL := Lib.hid hrl
    have HLN := Lib.hid (adjV_len t ws rs)
    clear e1 e2 e3 e4 hv hA hrl
    go_enter Try.func73, Try.ntmps73
    go_wp2_with fail
    rw [← hw0]
    clear hw0
    refine HR.out.mono ?_; rintro e w1 ⟨ar, cr, rfl, hor, b⟩
    have HB := A0.trans (b.mono A0.size)
    replace T0 := T0.next b
    have lt1 := Lib.hid (Nat.lt_of_lt_of_le lt0.out b.size)
    clear b c0 c1 c2 c3 HR A0
    obtain ⟨c0, c1, c2, c3⟩ := id T0
    go_wp2_with fail
    refine (iZeros t.code.length _ (by omega)).mono ?_; rintro e w2 ⟨g, rfl, og, b⟩
    have HB2 := HB.trans (b.mono HB.size)
    replace T0 := T0.next b
    have gb := og.base
    have hrw : Rw w2 g ar rs := rw_row hor.at b gb.1
    clear c0 c1 c2 c3 HB hor
    obtain ⟨w3, hw3⟩ : ∃ w3, w3 = w2.alloc (.cells #[ofN, .slice ar rs.length cr, .slice (some ⟨g, 0, none⟩) t.code.length t.code.length] 145) := ⟨_, rfl⟩
    have b3 : Below w2.heap.size w2 w3 := by rw [hw3]; exact (Below.refl _ _).alloc (Nat.le_refl _) _
    have S3 : Sbx w3 w2.heap.size ar rs.length cr g t.code.length t.code.length := by rw [hw3]; exact ⟨by simp [go_sem], by simp [go_sem], by simp [go_sem]⟩
    have HB3 := Lib.hid (HB2.trans (b3.mono HB2.size))
    have O3 := Lib.hid (og.kept b3 gb.2)
    have R3 := Lib.hid (hrw.next b3)
    have T3 := Lib.hid (T0.next b3)
    have lt2 := Lib.hid (show w.heap.size < w2.heap.size by have := lt1.out; have := b.size; omega)
    have neb := Lib.hid (show w2.heap.size ≠ g by omega)
    have net := Lib.hid (show w.heap.size ≠ g by have := lt1.out; omega)
    have hgw := Lib.hid (show w.heap.size ≤ g by have := lt1.out; omega)
    have hg3 := Lib.hid (show g < w3.heap.size by have := b3.size; omega)
    have HP := Lib.hid hP
    have HW := Lib.hid (rw_row hW (HB2.trans (b3.mono HB2.size)) hgw.out)
    have HO := Lib.hid (rw_of (g := g) hP.outs hgw.out HB3.out.size (fun k hk => HB3.out.block k hk))
    obtain ⟨c0, c1, c2, c3⟩ := id T0
    clear b b3 gb hrw og T0 hP hW HB2
    have l2 := lt2.out
    go_wp2_with fail
    rw [← hw3]
    clear hw3 c0 c1 c2 c3 l2
    have HS0 : Hid (seedV t ws 0 = List.replicate t.code.length 0) := rfl
    go_loopw [37] (fun q wr => ∃ k : Nat, k ≤ t.outs.length ∧ q = .int .i64 k ∧ Hid (Own w1.heap.size wr g t.code.length (seedV t ws k)) ∧ Hid (w3.grownBy wr (some g))) (fun q _ => t.outs.length - (intOf q).toNat)
    case atStart => exact ⟨0, Nat.zero_le _, rfl, O3.out, World.grownBy.refl _ _⟩
    case round =>
      obtain ⟨k, hk, rfl, hO, hG⟩ := hrel
      by_cases hlt : k < t.outs.length
      · have hi : (k : Int) < (t.outs.length : Int) := by omega
        have hlt2 : k < ws.length := by have := hwl.out; omega
        have hi2 : (k : Int) < (ws.length : Int) := by omega
        obtain ⟨s0, s1, s2⟩ : Sbx wr w2.heap.size ar rs.length cr g t.code.length t.code.length := S3.grown hG.out neb.out
        obtain ⟨bo, oo, rfl, hbo, -, hco⟩ := ((HO.out.grow hG.out (.inl rfl)).resolve_left (by intro e; rw [e] at hlt; simp at hlt))
        obtain ⟨bw, ow, rfl, hbw, nbw, hcw⟩ := ((HW.out.grow hG.out (.inl rfl)).resolve_left (by intro e; rw [e] at hlt2; simp at hlt2))
        have o0 := hco k hlt
        have f0 := hcw k hlt2
        have hoq := ht.out k hlt
        have hwv := hwn.at k
        have HC := Lib.hid (iAddN w1.heap.size ar rs.length cr g t.code.length t.code.length (t.outs.getD k 0) (seedV t ws k) (ws.getD k 0) wr.drew (hO.out.kept (drew_below wr) hO.out.base.2) (seedV_len t ws k) (by rw [seedV_len]; exact hoq) (seedV_nums t ws k) hwv)
        have HSd : Hid (∀ W, Own w1.heap.size W g t.code.length (vAdd (seedV t ws k) (t.outs.getD k 0).toNat (ws.getD k 0)) → Own w1.heap.size W g t.code.length (seedV t ws (k + 1))) := fun W h => h
        unfold swv at HC
        clear hco hcw hwv hO
        generalize t.outs.getD k 0 = ov at o0 hoq HC HSd
        generalize ws.getD k 0 = wv at f0 HC HSd
        go_wp2_with fail
        have lb := cell_lt s0
        have nb := neb.out
        go_region_held3 (fun w' => w'.cell? ⟨w2.heap.size, 0, none⟩ = some (ofN) ∧ w'.cell? ⟨w2.heap.size, 1, none⟩ = some (.slice ar rs.length cr) ∧ w'.cell? ⟨w2.heap.size, 2, none⟩ = some (.slice (some ⟨g, 0, none⟩) t.code.length t.code.length) ∧ w'.cell? ⟨bw, ow + k, none⟩ = some (.int .i64 wv))
          (first
            | exact ⟨(grown_cell hg9 lb nb).trans s0, (grown_cell hg9 lb nb).trans s1, (grown_cell hg9 lb nb).trans s2, (grown_cell hg9 hbw nbw).trans f0⟩
            | exact ⟨s0, s1, s2, f0⟩
            | go_keep)
          ((go_at_call 104; refine HC.out.mono ?_; rintro e w9 ⟨rfl, ho9, hg9⟩))
        clear lb nb
        have hG2 : Hid (w3.grownBy w9 (some g)) := grownBy_trans hG.out (grownBy_trans (below_grown_some (drew_below wr)) hg9)
        have hO2 : Hid (Own w1.heap.size w9 g t.code.length (seedV t ws (k + 1))) := HSd.out _ ho9
        clear ho9 hg9 hG HC HSd s0 s1 s2 o0 f0
        go_wp2_with fail
        go_roundw
        case rel => exact ⟨k + 1, by omega, by go_num, hO2, hG2⟩
        case measure => simp [intOf]; omega
      · have hi : ¬ (k : Int) < (t.outs.length : Int) := by omega
        have hkk : k = t.outs.length := by omega
        subst hkk
        obtain ⟨s0, s1, s2⟩ : Sbx wr w2.heap.size ar rs.length cr g t.code.length t.code.length := S3.grown hG.out neb.out
        obtain ⟨c0, c1, c2, c3⟩ : Tcl wr w.heap.size t ac cc ag cg ao co := T3.out.grown hG.out (by have := net.out; intro e; apply this; cases e; rfl)
        have HX0 : Hid (swpV t rs t.code.length (seedV t ws t.outs.length) = adjV t ws rs) := rfl
        have HL0 := Lib.hid (seedV_len t ws t.outs.length)
        have HN0 := Lib.hid (seedV_nums t ws t.outs.length)
        go_wp2_with fail
        clear c0 c1 c2 c3 s0 s1 s2
        go_loopw [15] (fun q wq => ∃ (k : Nat) (adj : List Int), k ≤ t.code.length ∧ q = .int .i64 ((k : Int) - 1) ∧ Hid (swpV t rs k adj = adjV t ws rs) ∧ Hid (adj.length = t.code.length) ∧ Hid (Nums adj) ∧ Hid (Own w1.heap.size wq g t.code.length adj) ∧ Hid (w3.grownBy wq (some g))) (fun q _ => (intOf q + 1).toNat)
        case atStart => exact ⟨t.code.length, _, Nat.le_refl _, rfl, HX0, HL0, HN0, hO, hG⟩
        case round =>
          obtain ⟨k, adj, hk, rfl, HX, HL, HN, hO, hG⟩ := hrel
          clear HX0 HL0 HN0
          obtain ⟨s0, s1, s2⟩ : Sbx wr w2.heap.size ar rs.length cr g t.code.length t.code.length := S3.grown hG.out neb.out
          obtain ⟨c0, c1, c2, c3⟩ : Tcl wr w.heap.size t ac cc ag cg ao co := T3.out.grown hG.out (by have := net.out; intro e; apply this; cases e; rfl)
          cases k with
          | zero =>
            have HF : Hid (adj = adjV t ws rs) := HX.out
            clear c0 c1 c2 c3
            go_wp2_with fail
            go_ret2
            refine ⟨some ⟨g, 0, none⟩, t.code.length, by rw [HLN.out]; rfl, .inr ⟨g, rfl, ?_⟩, HB3.out.grown hG.out HB3.out.size (fun q hq => by cases hq; exact hgw.out)⟩
            have := hO.out
            rw [HF.out] at this
            exact this.mono (by have := lt1.out; omega)
          | succ k =>
            have hlt : k < t.code.length := by omega
            have ek : ((k + 1 : Nat) : Int) - 1 = (k : Int) := by omega
            rw [ek]
            have hi : (k : Int) < (t.code.length : Int) := by omega
            have hlr : k < rs.length := by have := HRL.out; omega
            have hir : (k : Int) < (rs.length : Int) := by omega
            have hla : k < adj.length := by have := HL.out; omega
            obtain ⟨bc, oc, rfl, hbc, hcc⟩ := (((HP.out.code.agree (w' := wr) (fun j _ hj => (hG.out.block j (by have := HB3.out.size; omega) (by intro e; cases e; have := hgw.out; omega)).trans (HB3.out.block j hj))).mono (Nat.le_refl _) (Nat.le_refl _)).resolve_left (by intro e; rw [e] at hlt; simp at hlt))
            obtain ⟨hri, i0, i1, i2, i3⟩ := hcc k hlt
            have hRw := R3.out.grow hG.out (.inl rfl)
            obtain ⟨br, orr, har, hbr, nbr, hcr⟩ := (hRw.resolve_left (by intro e; rw [e] at hlr; simp at hlr))
            have r0 := hcr k hlr
            have a0 := hO.out.cellAt k hla
            have HC := iSpread w1.heap.size ar cr g t.code.length (t.code.getD k no4) k t.inputs rs adj wr.drew (ht.code k hlt) (hO.out.kept (drew_below wr) hO.out.base.2) (hRw.next (drew_below wr)) (show Hid _ from HRL.out.trans HL.out.symm) hla hrn HN.out
            unfold swv at HC
            rw [HL.out] at HC
            have HC := Lib.hid HC
            have HX2 : Hid (swpV t rs k (sprV (t.code.getD k no4) k rs adj) = adjV t ws rs) := HX.out
            have HL2 : Hid ((sprV (t.code.getD k no4) k rs adj).length = t.code.length) := (sprV_len _ _ _ _).trans HL.out
            have HN2 : Hid (Nums (sprV (t.code.getD k no4) k rs adj)) := sprV_nums HN.out
            have hsame := sprV_same (rs := rs) (adj := adj) (ht.code k hlt)
            have HSM : Hid (∀ W, Own w1.heap.size W g t.code.length (sprV (t.code.getD k no4) k rs adj) → W.cell? ⟨g, k, none⟩ = some (.int .i64 (adj.getD k 0))) := fun W h => by
              rw [← hsame]; exact h.cellAt k (by rw [sprV_len]; exact hla)
            have lbc := cell_lt i0
            have nbc := Lib.hid (show bc ≠ g by have := hgw.out; have := hbc.2; omega)
            subst har
            clear hcc hcr hRw hri HX HN HL hO hsame
            generalize sprV (t.code.getD k no4) k rs adj = adj2 at HC HX2 HL2 HN2 HSM
            generalize t.code.getD k no4 = x at i0 i1 i2 i3 HC
            generalize rs.getD k 0 = rv at r0 HC
            generalize adj.getD k 0 = av at a0 HC HSM
            go_wp2_with fail
            have lb := cell_lt s0
            have lt := cell_lt c1
            have nb := neb.out
            have nt := net.out
            have ngc := nbc.out
            go_region_held3 (fun w' => w'.cell? ⟨w2.heap.size, 0, none⟩ = some (ofN) ∧ w'.cell? ⟨w2.heap.size, 1, none⟩ = some (.slice (some ⟨br, orr, none⟩) rs.length cr) ∧ w'.cell? ⟨w2.heap.size, 2, none⟩ = some (.slice (some ⟨g, 0, none⟩) t.code.length t.code.length) ∧ w'.cell? ⟨w.heap.size, 1, none⟩ = some (.slice (some ⟨bc, oc, none⟩) t.code.length cc) ∧ w'.cell? ⟨bc, oc + k * 4, none⟩ = some (.int .i64 x.op) ∧ w'.cell? ⟨bc, oc + k * 4 + 1, none⟩ = some (.int .i64 x.a) ∧ w'.cell? ⟨bc, oc + k * 4 + 2, none⟩ = some (.int .i64 x.b) ∧ w'.cell? ⟨bc, oc + k * 4 + 3, none⟩ = some (.int .i64 x.num) ∧ w'.cell? ⟨br, orr + k, none⟩ = some (.int .i64 rv) ∧ w'.cell? ⟨g, k, none⟩ = some (.int .i64 av))
              (first
                | exact ⟨(grown_cell hg9 lb nb).trans s0, (grown_cell hg9 lb nb).trans s1, (grown_cell hg9 lb nb).trans s2, (grown_cell hg9 lt nt).trans c1, (grown_cell hg9 lbc ngc).trans i0, (grown_cell hg9 lbc ngc).trans i1, (grown_cell hg9 lbc ngc).trans i2, (grown_cell hg9 lbc ngc).trans i3, (grown_cell hg9 hbr nbr).trans r0, HSM.out _ ho9⟩
                | exact ⟨s0, s1, s2, c1, i0, i1, i2, i3, r0, a0⟩
                | go_keep)
              ((go_at_call 105; refine HC.out.mono ?_; rintro e w9 ⟨rfl, ho9, hg9⟩))
            clear lb lt nb nt ngc
            have hG2 : Hid (w3.grownBy w9 (some g)) := grownBy_trans hG.out (grownBy_trans (below_grown_some (drew_below wr)) hg9)
            have hO2 : Hid (Own w1.heap.size w9 g t.code.length adj2) := ho9
            clear ho9 hg9 hG HC s0 s1 s2 c0 c1 c2 c3 i0 i1 i2 i3 r0 a0
            go_wp2_with fail
            go_roundw
            case rel => exact ⟨k, adj2, by omega, by go_num, HX2, HL2, HN2, hO2, hG2⟩
            case measure => simp [intOf] <;> omega

end Go.Proofs.Ytggojffmfjeikaa
