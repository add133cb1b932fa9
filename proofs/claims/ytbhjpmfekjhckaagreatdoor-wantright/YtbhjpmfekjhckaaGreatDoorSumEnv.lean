/-
  What package sum wants of the listed variables: two errors of package api, two of package strconv, the table of powers of ten; and package sum's Join: a contract, over this seat's translation.
-/
import Derived.Test.YtbhjpmfekjhckaaGreatDoorRefDigitsRefSumPkSum
import Derived.Test.YtbhjpmfekjhckaaGreatDoorErrV
import Derived.Lib.ItoaMem
import Derived.Lib.LaidTab
import Derived.Deep.QuietTactic
import Derived.BigQuiet
namespace Go.Proofs.YtbhjpmfekjhckaaGreatDoor
open Go.RowKit

structure SEnv (p : Nat → Addr) (w : World) : Prop where
  s0 : w.cell? ⟨5, 0, none⟩ = some (.iface 207 (.pointer (some (p 0))))
  s1 : w.cell? ⟨2, 0, none⟩ = some (.iface 207 (.pointer (some (p 1))))
  syn : ∃ a, w.cell? ⟨16, 0, none⟩ = some (.iface 207 (.pointer (some a)))
  rng : ∃ a, w.cell? ⟨17, 0, none⟩ = some (.iface 207 (.pointer (some a)))
  tab : Lib.TabIs Tryz.prog w "internal/strconv.uint64pow10" .u64 Lib.pow10Tab

theorem lt_of_cell {w : World} {a : Addr} {v : Value} (h : w.cell? a = some v) : a.block < w.heap.size := by
  rcases Nat.lt_or_ge a.block w.heap.size with h' | h'
  · exact h'
  · simp [World.cell?, Array.getElem?_eq_none h'] at h
theorem var_below {n : String} {g : Nat} {cs : Array Value} {w w' : World} (hg : Tryz.prog.globalNamed n = some g) (h : w.var? Tryz.prog n = some cs) (hb : Below w.heap.size w w') : w'.var? Tryz.prog n = some cs := by
  unfold World.var? at h ⊢
  rw [hg] at h ⊢
  simp only [Option.bind_some] at h ⊢
  have hlt : g < w.heap.size := by
    rcases Nat.lt_or_ge g w.heap.size with h' | h'
    · exact h'
    · rw [Array.getElem?_eq_none h'] at h; cases h
  rw [hb.block g hlt]
  exact h
theorem Tryz.gPow10 : Tryz.prog.globalNamed "internal/strconv.uint64pow10" = some 15 := by kernel_rfl

theorem SEnv.below {p : Nat → Addr} {w w' : World} (E : SEnv p w) (hb : Below w.heap.size w w') : SEnv p w' where
  s0 := (hb.cell (p := ⟨5, 0, none⟩) (lt_of_cell E.s0)).trans E.s0
  s1 := (hb.cell (p := ⟨2, 0, none⟩) (lt_of_cell E.s1)).trans E.s1
  syn := by
    obtain ⟨a, h⟩ := E.syn
    exact ⟨a, (hb.cell (p := ⟨16, 0, none⟩) (lt_of_cell h)).trans h⟩
  rng := by
    obtain ⟨a, h⟩ := E.rng
    exact ⟨a, (hb.cell (p := ⟨17, 0, none⟩) (lt_of_cell h)).trans h⟩
  tab := var_below Tryz.gPow10 E.tab hb

theorem joinS_yes {a b n : Int} (ha : isS a = true) (hb : isS b = true) (h0 : 0 ≤ n) (h1 : n ≤ 1073741824) : joinS a b n = ((((a.toNat * powM n.toNat + b.toNat) % Mo : Nat) : Int), 0) := by simp only [joinS, ha, hb, h0, h1, and_self, if_true]
theorem joinS_no {a b n : Int} (h : ¬ (isS a = true ∧ isS b = true ∧ 0 ≤ n ∧ n ≤ 1073741824)) : joinS a b n = (0, 2) := by unfold joinS; rw [if_neg h]

end Go.Proofs.YtbhjpmfekjhckaaGreatDoor
