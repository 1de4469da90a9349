/- The closed facts of a row, put together one by one: what the cut's head says is read off its list of signs, so that no long text is taken apart again and again. -/
import Derived.Test.YtggojffmfjeikaaRows
import Derived.JoinedOf
import Derived.KernelRfl
namespace Go.Proofs.Ytggojffmfjeikaa

theorem make_of {P : Program} {r : List (List Char)} (h : behindMainWord (wordsSigns P.initOrder.toList) = [Char.ofNat 99, Char.ofNat 117, Char.ofNat 116] :: r) : P.make = some .cut := by
  unfold Program.make; rw [h]; rfl
theorem strip_cut (r : List (List Char)) : stripLifts liftWords ([Char.ofNat 99, Char.ofNat 117, Char.ofNat 116] :: r) = ([], [Char.ofNat 99, Char.ofNat 117, Char.ofNat 116] :: r) := by kernel_rfl
theorem final_of {P : Program} {r : List (List Char)} (h : behindMainWord (wordsSigns P.initOrder.toList) = [Char.ofNat 99, Char.ofNat 117, Char.ofNat 116] :: r) : P.liftsFinal = false := by
  unfold Program.liftsFinal Program.headLifts; rw [h, strip_cut]; rfl
theorem enter_of {P : Program} {r : List (List Char)} (h : behindMainWord (wordsSigns P.initOrder.toList) = [Char.ofNat 99, Char.ofNat 117, Char.ofNat 116] :: r) (hl : P.laysLater = false) (hb : P.bearsReflect = false) (hd : P.doorFits [] = true) : P.mayEnter = true := by
  unfold Program.mayEnter; rw [h, hl, hb]; dsimp only; rw [strip_cut]; simp [hd]

set_option maxRecDepth 100000 in
def headCodes : List Nat := [104, 97, 114, 110, 101, 115, 115, 32, 57, 99, 57, 55, 97, 101, 49, 97, 97, 48, 52, 51, 48, 100, 97, 99, 51, 55, 49, 98, 57, 98, 101, 50, 57, 51, 54, 98, 50, 54, 55, 48, 49, 52, 57, 99, 53, 99, 52, 56, 49, 52, 50, 98, 97, 99, 100, 57, 101, 102, 51, 57, 99, 56, 53, 52, 99, 56, 52, 97, 50, 56, 57, 57, 32, 99, 117, 116, 32, 97, 116, 32, 108, 111, 111, 112, 46, 101, 120, 97, 109, 112, 108, 101, 47, 103, 48, 49, 48, 57, 49, 47, 108, 97, 119, 115, 46, 70, 110, 69, 120, 97, 99, 116, 86, 97, 108, 105, 100, 80, 111, 108, 121, 32, 108, 111, 111, 112, 46, 101, 120, 97, 109, 112, 108, 101, 47, 103, 48, 49, 48, 57, 49, 47, 108, 97, 119, 115, 46, 70, 110, 69, 120, 97, 99, 116, 68, 101, 114, 105, 118, 101, 80, 111, 108, 121, 32, 108, 111, 111, 112, 46, 101, 120, 97, 109, 112, 108, 101, 47, 103, 48, 49, 48, 57, 49, 47, 108, 97, 119, 115, 46, 70, 110, 69, 120, 97, 99, 116, 80, 111, 108, 121, 86, 97, 108, 117, 101, 32, 108, 111, 111, 112, 46, 101, 120, 97, 109, 112, 108, 101, 47, 103, 48, 49, 48, 57, 49, 47, 108, 97, 119, 115, 46, 70, 110, 69, 120, 97, 99, 116, 73, 110, 112, 117, 116, 115, 79, 102, 32, 108, 111, 111, 112, 46, 101, 120, 97, 109, 112, 108, 101, 47, 103, 48, 49, 48, 57, 49, 47, 108, 97, 119, 115, 46, 70, 110, 69, 120, 97, 99, 116, 84, 97, 112, 101, 82, 101, 118, 101, 114, 115, 101, 32, 108, 111, 111, 112, 46, 101, 120, 97, 109, 112, 108, 101, 47, 103, 48, 49, 48, 57, 49, 47, 108, 97, 119, 115, 46, 70, 110, 69, 120, 97, 99, 116, 65, 100, 106, 111, 105, 110, 116, 115, 79, 102]
set_option maxRecDepth 100000 in
theorem headIs : Try.prog.initOrder = String.ofList (headCodes.map Char.ofNat) := by kernel_rfl
set_option maxRecDepth 100000 in
theorem headWords : behindMainWord (wordsSigns Try.prog.initOrder.toList) = [Char.ofNat 99, Char.ofNat 117, Char.ofNat 116] :: (behindMainWord (wordsSigns (headCodes.map Char.ofNat))).tail := by
  rw [headIs, String.toList_ofList]; kernel_rfl
theorem factMay : Try.prog.mayEnter = true := enter_of headWords (by kernel_rfl) (by kernel_rfl) (by kernel_rfl)
theorem factFinal : Try.prog.liftsFinal = false := final_of headWords
theorem factMake : Try.prog.make = some .cut := make_of headWords
theorem factLaid : laidOutB Try.prog = true := by kernel_rfl
theorem factMaps : mapsRowed Try.prog = true := by kernel_rfl
theorem factStops : (Try.prog.stops == []) = true := by kernel_rfl
theorem factKnobs : (Try.prog.stopKnobs == []) = true := by kernel_rfl
theorem factHeard : Try.prog.stopsHeard = true := by kernel_rfl

end Go.Proofs.Ytggojffmfjeikaa
