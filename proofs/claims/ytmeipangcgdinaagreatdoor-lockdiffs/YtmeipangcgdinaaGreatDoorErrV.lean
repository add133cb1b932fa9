/-
  The value of an error by its number: over this seat's translation.
-/
import Derived.Test.YtmeipangcgdinaaGreatDoorChecked
namespace Go.Proofs.YtmeipangcgdinaaGreatDoor

/-- The error of a number. -/
def errV (p : Nat → Addr) (c : Nat) : Value := if c = 0 then .nilIface else .iface 156 (.pointer (some (p (c - 1))))
theorem errV_zero (p : Nat → Addr) : errV p 0 = .nilIface := rfl
theorem errV_some (p : Nat → Addr) {k : Nat} (h : k ≠ 0) : errV p k = .iface 156 (.pointer (some (p (k - 1)))) := by simp [errV, h]
end Go.Proofs.YtmeipangcgdinaaGreatDoor
