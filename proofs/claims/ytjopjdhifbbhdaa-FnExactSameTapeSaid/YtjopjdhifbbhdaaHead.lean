/- The closed facts of a row, put together one by one: what the cut's head says is read off its list of signs, so that no long text is taken apart again and again. -/
import Derived.Test.YtjopjdhifbbhdaaRows
import Derived.JoinedOf
import Derived.KernelRfl
namespace Go.Proofs.Ytjopjdhifbbhdaa

theorem make_of {P : Program} {r : List (List Char)} (h : behindMainWord (wordsSigns P.initOrder.toList) = [Char.ofNat 99, Char.ofNat 117, Char.ofNat 116] :: r) : P.make = some .cut := by
  unfold Program.make; rw [h]; rfl
theorem strip_cut (r : List (List Char)) : stripLifts liftWords ([Char.ofNat 99, Char.ofNat 117, Char.ofNat 116] :: r) = ([], [Char.ofNat 99, Char.ofNat 117, Char.ofNat 116] :: r) := by kernel_rfl
theorem final_of {P : Program} {r : List (List Char)} (h : behindMainWord (wordsSigns P.initOrder.toList) = [Char.ofNat 99, Char.ofNat 117, Char.ofNat 116] :: r) : P.liftsFinal = false := by
  unfold Program.liftsFinal Program.headLifts; rw [h, strip_cut]; rfl
theorem enter_of {P : Program} {r : List (List Char)} (h : behindMainWord (wordsSigns P.initOrder.toList) = [Char.ofNat 99, Char.ofNat 117, Char.ofNat 116] :: r) (hl : P.laysLater = false) (hb : P.bearsReflect = false) (hd : P.doorFits [] = true) : P.mayEnter = true := by
  unfold Program.mayEnter; rw [h, hl, hb]; dsimp only; rw [strip_cut]; simp [hd]

set_option maxRecDepth 100000 in
def headCodes : List Nat := [104, 97, 114, 110, 101, 115, 115, 32, 52, 54, 55, 99, 57, 49, 57, 48, 56, 48, 49, 97, 57, 98, 55, 48, 48, 101, 53, 101, 49, 97, 48, 55, 102, 51, 102, 56, 55, 99, 50, 54, 101, 52, 57, 56, 97, 102, 102, 53, 49, 97, 56, 102, 100, 101, 101, 101, 54, 49, 99, 57, 55, 100, 52, 54, 57, 56, 98, 57, 101, 55, 54, 48, 32, 99, 117, 116, 32, 97, 116, 32, 108, 111, 111, 112, 46, 101, 120, 97, 109, 112, 108, 101, 47, 103, 48, 49, 48, 57, 49, 47, 108, 97, 119, 115, 46, 70, 110, 69, 120, 97, 99, 116, 86, 97, 108, 105, 100, 84, 97, 112, 101, 32, 108, 111, 111, 112, 46, 101, 120, 97, 109, 112, 108, 101, 47, 103, 48, 49, 48, 57, 49, 47, 108, 97, 119, 115, 46, 70, 110, 69, 120, 97, 99, 116, 83, 97, 109, 101, 84, 97, 112, 101, 32, 108, 111, 111, 112, 46, 101, 120, 97, 109, 112, 108, 101, 47, 103, 48, 49, 48, 57, 49, 47, 108, 97, 119, 115, 46, 70, 110, 69, 120, 97, 99, 116, 67, 111, 117, 110, 116, 79, 112, 115, 32, 108, 111, 111, 112, 46, 101, 120, 97, 109, 112, 108, 101, 47, 103, 48, 49, 48, 57, 49, 47, 108, 97, 119, 115, 46, 70, 110, 69, 120, 97, 99, 116, 73, 110, 112, 117, 116, 115, 79, 102, 32, 108, 111, 111, 112, 46, 101, 120, 97, 109, 112, 108, 101, 47, 103, 48, 49, 48, 57, 49, 47, 108, 97, 119, 115, 46, 70, 110, 69, 120, 97, 99, 116, 82, 101, 103, 105, 115, 116, 101, 114, 115, 79, 102, 32, 108, 111, 111, 112, 46, 101, 120, 97, 109, 112, 108, 101, 47, 103, 48, 49, 48, 57, 49, 47, 108, 97, 119, 115, 46, 70, 110, 69, 120, 97, 99, 116, 82, 117, 110, 84, 97, 112, 101, 32, 108, 111, 111, 112, 46, 101, 120, 97, 109, 112, 108, 101, 47, 103, 48, 49, 48, 57, 49, 47, 108, 97, 119, 115, 46, 70, 110, 69, 120, 97, 99, 116, 71, 117, 97, 114, 100, 115, 72, 111, 108, 100, 32, 108, 111, 111, 112, 46, 101, 120, 97, 109, 112, 108, 101, 47, 103, 48, 49, 48, 57, 49, 47, 108, 97, 119, 115, 46, 70, 110, 69, 120, 97, 99, 116, 65, 100, 106, 111, 105, 110, 116, 115, 79, 102, 32, 108, 111, 111, 112, 46, 101, 120, 97, 109, 112, 108, 101, 47, 103, 48, 49, 48, 57, 49, 47, 108, 97, 119, 115, 46, 70, 110, 69, 120, 97, 99, 116, 84, 97, 112, 101, 82, 101, 118, 101, 114, 115, 101]
set_option maxRecDepth 100000 in
theorem headIs : Try.prog.initOrder = String.ofList (headCodes.map Char.ofNat) := by kernel_rfl
set_option maxRecDepth 100000 in
theorem headWords : behindMainWord (wordsSigns Try.prog.initOrder.toList) = [Char.ofNat 99, Char.ofNat 117, Char.ofNat 116] :: (behindMainWord (wordsSigns (headCodes.map Char.ofNat))).tail := by
  rw [headIs, String.toList_ofList]; kernel_rfl
theorem factMay : Try.prog.mayEnter = true := enter_of headWords (by kernel_rfl) (by kernel_rfl) (by kernel_rfl)
theorem factFinal : Try.prog.liftsFinal = false := final_of headWords
theorem factMake : Try.prog.make = some .cut := make_of headWords
theorem factLaid : laidOutB Try.prog = true := by kernel_rfl
theorem factMaps : mapsRowed Try.prog = true := by kernel_rfl
theorem factStops : (Try.prog.stops == []) = true := by kernel_rfl
theorem factKnobs : (Try.prog.stopKnobs == []) = true := by kernel_rfl
theorem factHeard : Try.prog.stopsHeard = true := by kernel_rfl

end Go.Proofs.Ytjopjdhifbbhdaa
