/- slices.Concat of two lists of numbers. -/
import Derived.Test.YtiimebiecihpkaaMxb
import Derived.Lib.AppendZerosOnto
import Derived.Lib.AppendZeros
import Derived.Shelf.Spec.SlicesGrow
import Derived.Laws.AppendOwnNone
import Derived.WalkKit
namespace Go.Proofs.Ytiimebiecihpkaa
open Go.RowKit
set_option linter.unusedVariables false

set_option maxRecDepth 100000 in
set_option maxHeartbeats 3200000 in
theorem iGrow0 (n : Nat) (w : World) (h1 : 1 ≤ n) (h2 : n ≤ 2097152) :
    Calls Try.prog 220 #[.slice none 0 0, .int .i64 n] w fun e w' => ∃ cap, e = .returned (.slice (some ⟨w.heap.size, 0, none⟩) 0 cap) ∧ w'.ownsRow w.heap.size 2 1 (.slice (some ⟨w.heap.size, 0, none⟩) 0 cap) 0 [] ∧ Below w.heap.size w w' := by
  obtain ⟨i0, hi, hz0, hz1, hz2⟩ := info_parts info64
  have hrz : ∀ ty, (Builtin.append_ #[23, 3] ty #[.slice none 0 0, .int .i64 n]).run Try.prog w = .ok (.slice (some ⟨w.heap.size, 0, none⟩) n (grownCap w n 0 2)) (w.drew.alloc (.cells (Builtin.zeroCells (Value.int IntKind.i64 0).cells n ++ Builtin.zeroCells (Value.int IntKind.i64 0).cells (grownCap w n 0 2 - n)) 2)) := fun ty => by
    have h := Lib.run_append_grow_zeros (P := Try.prog) w 23 3 ty 2 i0 (.int .i64 0) .i64 .i64 Try.underlying23 Try.underlying3 hi hz0 none 0 0 [] (run_firstCells_none w.drew i0.size 0 0 0) n (by omega) (by omega) (by omega) (by omega) (by rw [hz2]; omega) (growslice_fits (by omega) (by rw [hz2]; omega))
    simpa using h
  have hG := grownCap_ge w n 0 2
  have hGm := grownCap_le_maxLen w n 0 2 (by unfold maxLen; omega)
  generalize grownCap w n 0 2 = G at *
  have hO : (w.drew.alloc (.cells (Builtin.zeroCells (Value.int IntKind.i64 0).cells n ++ Builtin.zeroCells (Value.int IntKind.i64 0).cells (G - n)) 2)).ownsRow w.heap.size 2 1 (.slice (some ⟨w.heap.size, 0, none⟩) 0 G) 0 [] :=
    World.ownsRow_made w.drew _ G (Nat.le_refl _) hGm (by simp [size_zeroCells, Value.cells]; omega)
  have hB : Below w.heap.size w (w.drew.alloc (.cells (Builtin.zeroCells (Value.int IntKind.i64 0).cells n ++ Builtin.zeroCells (Value.int IntKind.i64 0).cells (G - n)) 2)) := (Below.refl _ w).drew.alloc (Nat.le_refl _) _
  have HO := Lib.hid hO
  have HB := Lib.hid hB
  clear hO hB
  have hni : (0 : Int) < (n : Int) := by omega
  have hnl : ¬ ((n : Int) < 0) := by omega
  unfold maxLen at hGm
  go_enter Try.func220, Try.ntmps220
  go_wp2_with (at_builtin; refine Lib.wpList_append_run _ rfl _ _ _ _ rfl _ _ rfl rfl _ _ (hrz _) ?_)
  go_ret
  exact ⟨G, rfl, HO.out, HB.out⟩

/-- two lists, one behind the other, so far -/
def catK (l m : List Int) (k : Nat) : List Int := if k = 0 then [] else if k = 1 then l else l ++ m
set_option maxRecDepth 100000 in
set_option maxHeartbeats 6400000 in
theorem iConcat (l m : List Int) (a1 : Option Addr) (c1 : Nat) (a2 : Option Addr) (c2 G cG : Nat) (w : World) (h1 : At w a1 l) (h2 : At w a2 m) (hn2 : a2 = none → m = [] ∧ c2 = 0) (hl : 1 ≤ l.length) (hb1 : l.length ≤ 1048576) (hb2 : m.length ≤ 1048576)
    (g0 : w.cell? ⟨G, 0, none⟩ = some (.slice a1 l.length c1)) (g1 : w.cell? ⟨G, 1, none⟩ = some (.slice a2 m.length c2)) :
    Calls Try.prog 203 #[.slice (some ⟨G, 0, none⟩) 2 cG] w (Fresh w (l ++ m)) := by
  obtain ⟨i0, hi, hz0, hz1, hz2⟩ := info_parts info64
  have hGs : G < w.heap.size := cell_lt g0
  have HG := fun (W : World) => Lib.hid (iGrow0 (l.length + m.length) W (by omega) (by omega))
  have e1 : IntKind.i64.wrap (0 + (l.length : Int)) = (l.length : Int) := by rw [IntWalk.i64_in _ (by omega)]; omega
  have e2 : IntKind.i64.wrap ((l.length : Int) + (m.length : Int)) = (l.length : Int) + (m.length : Int) := IntWalk.i64_in _ (by omega)
  have hlen : ((l.length + m.length : Nat) : Int) = (l.length : Int) + (m.length : Int) := by omega
  rw [hlen] at HG
  clear hlen
  go_enter Try.func203, Try.ntmps203
  go_wp2_with fail
  go_loop [3, 11] (fun v q => (v = .int .i64 0 ∧ q = .int .i64 0) ∨ (v = .int .i64 l.length ∧ q = .int .i64 1) ∨ (v = .int .i64 ((l.length : Int) + (m.length : Int)) ∧ q = .int .i64 2)) (fun _ q => 3 - (intOf q).toNat)
  case atStart => exact .inl ⟨rfl, rfl⟩
  case round =>
    rcases hrel with ⟨rfl, rfl⟩ | ⟨rfl, rfl⟩ | ⟨rfl, rfl⟩
    · go_wp2_with fail
      go_round
      case rel => exact .inr (.inl ⟨rfl, rfl⟩)
      case measure => simp [intOf]
    · go_wp2_with fail
      go_round
      case rel => exact .inr (.inr ⟨rfl, rfl⟩)
      case measure => simp [intOf]
    · go_wp2_with fail
      refine (HG _).out.mono ?_; rintro e w1 ⟨cap, rfl, ho, hb⟩
      clear HG
      have HO := Lib.hid ho
      have HB := Lib.hid hb
      clear ho hb
      have HA1 := Lib.hid (h1.below HB.out (Nat.le_refl _))
      have HA2 := Lib.hid (h2.below HB.out (Nat.le_refl _))
      have t0 := (HB.out.cell (p := ⟨G, 0, none⟩) hGs).trans g0
      have t1 := (HB.out.cell (p := ⟨G, 1, none⟩) hGs).trans g1
      have HT := Lib.hid (And.intro t0 t1)
      have HA2' := Lib.hid h2
      have g1' := g1
      clear h1 h2 g0 g1 t0 t1
      go_wp2_with fail
      go_loopw [6, 27] (fun v q wr => Hid (Below w.heap.size w wr) ∧ ((v = .slice (some ⟨w.heap.size, 0, none⟩) 0 cap ∧ q = .int .i64 0 ∧ wr = w1) ∨ (∃ g c, v = .slice (some ⟨g, 0, none⟩) l.length c ∧ q = .int .i64 1 ∧ Hid (Own w.heap.size wr g c l)) ∨ (∃ g c, v = .slice (some ⟨g, 0, none⟩) (l ++ m).length c ∧ q = .int .i64 2 ∧ Hid (Own w.heap.size wr g c (l ++ m))))) (fun _ q _ => 3 - (intOf q).toNat)
      case atStart => exact ⟨HB.out, .inl ⟨rfl, rfl, rfl⟩⟩
      case round =>
        obtain ⟨HBr, hrel⟩ := hrel
        rcases hrel with ⟨rfl, rfl, rfl⟩ | ⟨g, c, rfl, rfl, HOr⟩ | ⟨g, c, rfl, rfl, HOr⟩
        · obtain ⟨b1, o1, rfl, hbl1, hc1⟩ := HA1.out.resolve_left (by intro e; rw [e] at hl; simp at hl)
          have HN := Lib.hid (news_of_at (w := wr) (w0 := wr) (b := b1) (o := o1) (l := l) hc1)
          have hone : Hid (∀ u ∈ l.map (Value.int .i64), u.oneCell' = true) := ints_oneCell .i64 l
          have hzB := HBr.out.size
          obtain ⟨t0, t1⟩ := id HT.out
          have ho := HO.out
          clear hc1 HA2 HO t1
          go_wp2_with (at_builtin; refine wpList_append_lies _ rfl _ _ _ rfl w.heap.size 2 i0 _ 1 8 Try.underlying23 hi hz0 hz1 hz2 rfl (by omega) (.slice (some ⟨w.heap.size, 0, none⟩) 0 cap) 0 [] rfl ho ⟨b1, o1, none⟩ l.length c1 (l.map (Value.int .i64)) rfl (by rw [List.length_map, Nat.mul_one]) HN.out hone.out (by omega) (by unfold maxLen; omega) (by omega) (by omega) wr.heap.size rfl ?_; intro g cc w5 hown5 hgrow hat hlt5)
          have HO5 : Hid (Own w.heap.size w5 g cc l) := by show Own _ _ _ _ _; unfold Own; simpa using hown5
          have HB5 := Lib.hid (HBr.out.grown hgrow hzB (by intro q hq; simp [Value.ownBlock] at hq; omega))
          clear hown5 hgrow hat
          go_roundw
          case rel => exact ⟨HB5.out, .inr (.inl ⟨g, cc, rfl, rfl, HO5.out⟩)⟩
          case measure => simp [intOf]
        · obtain ⟨t0, t1⟩ := id HT.out
          have x1 := (HBr.out.cell (p := ⟨G, 1, none⟩) hGs).trans g1'
          have hzB := HBr.out.size
          have ho2 : wr.ownsRow w.heap.size 2 1 (.slice (some ⟨g, 0, none⟩) l.length c) l.length (l.map (Value.int .i64)) := HOr.out
          clear t0 t1
          by_cases hm0 : m = []
          · cases a2 with
            | none =>
              obtain ⟨hmx, hc20⟩ := hn2 rfl
              clear hmx
              have hml : m.length = 0 := by rw [hm0]; rfl
              rw [hml, hc20] at x1
              have HO6 : Hid (Own w.heap.size wr g c (l ++ m)) := by show Own _ _ _ _ _; rw [hm0, List.append_nil]; exact HOr.out
              have HLM : Hid ((l ++ m).length = l.length) := by show _ = _; rw [hm0, List.append_nil]
              clear hml hm0 hn2
              go_wp2_with (at_builtin; refine wpList_append_own_none rfl _ _ _ rfl w.heap.size 2 i0 1 Try.underlying23 hi (.slice (some ⟨g, 0, none⟩) l.length c) l.length (l.map (Value.int .i64)) rfl ho2 rfl ?_)
              go_roundw
              case rel => exact ⟨HBr.out, .inr (.inr ⟨g, c, by rw [HLM.out], rfl, HO6.out⟩)⟩
              case measure => simp [intOf]
            | some ad =>
              have hml : m.length = 0 := by rw [hm0]; rfl
              have HM0 := Lib.hid hm0
              rw [hml] at x1
              clear hm0 hml hn2
              go_wp2_with (at_builtin; refine wpList_append_own _ rfl _ _ 23 rfl w.heap.size 2 i0 _ 1 8 Try.underlying23 hi hz0 hz1 hz2 rfl (by omega) (.slice (some ⟨g, 0, none⟩) l.length c) l.length (l.map (Value.int .i64)) rfl ho2 ad 0 c2 [] rfl rfl (fun j u h => by simp at h) (fun u h => by simp at h) (by unfold maxLen; omega) (by omega) hzB ?_; intro v5 w5 hown5 hgrow hnil)
              obtain ⟨g5, k5, rfl, hg5, _⟩ := hown5.form (by omega)
              have HO6 : Hid (Own w.heap.size w5 g5 k5 (l ++ m)) := by show Own _ _ _ _ _; rw [HM0.out, List.append_nil]; unfold Own; simpa using hown5
              have HB6 := Lib.hid (HBr.out.grown hgrow hzB (by intro q hq; have := ho2.lt q hq; omega))
              have HLM : Hid ((l ++ m).length = l.length + 0) := by show _ = _; rw [HM0.out, List.append_nil]; rfl
              clear hown5 hgrow hnil
              go_wp2_with fail
              go_roundw
              case rel => exact ⟨HB6.out, .inr (.inr ⟨g5, k5, by rw [HLM.out], rfl, HO6.out⟩)⟩
              case measure => simp [intOf]
          · have hm1 : 1 ≤ m.length := List.length_pos_iff.2 hm0
            obtain ⟨b2, o2, rfl, hbl2, hc2⟩ := (HA2'.out.below HBr.out (Nat.le_refl _)).resolve_left hm0
            have HN := Lib.hid (news_of_at (w := wr) (w0 := wr) (b := b2) (o := o2) (l := m) hc2)
            have hone : Hid (∀ u ∈ m.map (Value.int .i64), u.oneCell' = true) := ints_oneCell .i64 m
            clear hc2 hm0
            go_wp2_with (at_builtin; refine wpList_append_lies _ rfl _ _ _ rfl w.heap.size 2 i0 _ 1 8 Try.underlying23 hi hz0 hz1 hz2 rfl (by omega) (.slice (some ⟨g, 0, none⟩) l.length c) l.length (l.map (Value.int .i64)) rfl ho2 ⟨b2, o2, none⟩ m.length c2 (m.map (Value.int .i64)) rfl (by rw [List.length_map, Nat.mul_one]) HN.out hone.out (by omega) (by unfold maxLen; omega) (by omega) hzB wr.heap.size rfl ?_; intro g5 k5 w5 hown5 hgrow hat hlt5)
            have HO6 : Hid (Own w.heap.size w5 g5 k5 (l ++ m)) := by show Own _ _ _ _ _; unfold Own; rw [List.length_append, List.map_append]; exact hown5
            have HB6 := Lib.hid (HBr.out.grown hgrow hzB (by intro q hq; have := ho2.lt q hq; omega))
            have HLM : Hid ((l ++ m).length = l.length + m.length) := List.length_append
            clear hown5 hgrow hat
            go_roundw
            case rel => exact ⟨HB6.out, .inr (.inr ⟨g5, k5, by rw [HLM.out], rfl, HO6.out⟩)⟩
            case measure => simp [intOf]
        · have e3 : ((l ++ m).length : Int) = (l.length : Int) + (m.length : Int) := by simp
          clear e3
          go_wp2_with fail
          go_ret
          exact ⟨g, c, rfl, HOr.out, HBr.out⟩

end Go.Proofs.Ytiimebiecihpkaa
