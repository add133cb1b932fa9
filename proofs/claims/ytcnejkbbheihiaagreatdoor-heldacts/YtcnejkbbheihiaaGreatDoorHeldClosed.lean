/-
  The closed fact of the laws on what is held, plainly: two trees, one behind the other, where there is room for one: no machine.
-/
import Derived.Test.YtcnejkbbheihiaaGreatDoorSumTreeHeldPureHeldFacts
namespace Go.Proofs.YtcnejkbbheihiaaGreatDoor

abbrev heldA : F := ⟨[97], false, []⟩
abbrev heldB : F := ⟨[98], false, []⟩
theorem heldA_tree : treeFault [heldA] = (0, -1) := by kernel_rfl
theorem heldB_tree : treeFault [heldB] = (0, -1) := by kernel_rfl
theorem digits_none : digitsL 0 = [48] := by rw [digits_small (by decide)]; rfl
theorem heldA_text : packL [heldA] = [97, 32, 102, 32, 48, 10, 10] := by
  show fileL heldA ++ [] = _
  unfold fileL lineL heldA
  simp [digits_none]
theorem heldB_text : packL [heldB] = [98, 32, 102, 32, 48, 10, 10] := by
  show fileL heldB ++ [] = _
  unfold fileL lineL heldB
  simp [digits_none]
theorem heldA_sum : sumT [heldA] = sumL [97, 32, 102, 32, 48, 10, 10] := by rw [sum_yes (by rw [heldA_tree]), heldA_text]
theorem heldB_sum : sumT [heldB] = sumL [98, 32, 102, 32, 48, 10, 10] := by rw [sum_yes (by rw [heldB_tree]), heldB_text]
theorem held_other : sumT [heldA] ≠ sumT [heldB] := by
  rw [heldA_sum, heldB_sum]
  decide +kernel
theorem held_first : putH (Hs.none 1) [heldA] = (⟨1, [⟨sumT [heldA], [heldA]⟩]⟩, sumT [heldA], 0, -1) :=
  putH_comes (by rw [heldA_tree]) (by decide) rfl (by decide)
theorem held_second : putH ⟨1, [⟨sumT [heldA], [heldA]⟩]⟩ [heldB] = (⟨1, [⟨sumT [heldB], [heldB]⟩]⟩, sumT [heldB], 0, -1) := by
  have hs : spotH [⟨sumT [heldA], [heldA]⟩] (sumT [heldB] : Int) = none := spotH_none fun j hj => by
    obtain rfl : j = 0 := by simp at hj; omega
    show (sumT [heldA] : Int) ≠ sumT [heldB]
    have := held_other
    omega
  exact putH_goes (s := ⟨1, [⟨sumT [heldA], [heldA]⟩]⟩) (by rw [heldB_tree]) (by decide) hs (by decide)
theorem held_gone : getH ⟨1, [⟨sumT [heldB], [heldB]⟩]⟩ (sumT [heldA] : Int) = ([], 6) := getH_none (spotH_none fun j hj => by
    obtain rfl : j = 0 := by simp at hj; omega
    show (sumT [heldB] : Int) ≠ sumT [heldA]
    have := held_other
    omega)
theorem held_there : getH ⟨1, [⟨sumT [heldB], [heldB]⟩]⟩ (sumT [heldB] : Int) = ([heldB], 0) :=
  getH_some (s := ⟨1, [⟨sumT [heldB], [heldB]⟩]⟩) (spotH_first (k := 0) (by simp) rfl (fun j _ hj => by omega)) (by simp)
end Go.Proofs.YtcnejkbbheihiaaGreatDoor
