/-
  What package sum wants of the listed variables: two errors of package api, two of package strconv, the table of powers of ten; and package sum's Join: a contract, over this seat's translation.
-/
import Derived.Test.YtfgnngbjklpjcaaDoorPkSum
import Derived.Test.YtfgnngbjklpjcaaDoorErrV
import Derived.Lib.ItoaMem
import Derived.Lib.LaidTab
import Derived.Deep.QuietTactic
import Derived.BigQuiet
namespace Go.Proofs.YtfgnngbjklpjcaaDoor
open Go.RowKit

structure SEnv (p : Nat → Addr) (w : World) : Prop where
  s0 : w.cell? ⟨1, 0, none⟩ = some (.iface 105 (.pointer (some (p 0))))
  s1 : w.cell? ⟨0, 0, none⟩ = some (.iface 105 (.pointer (some (p 1))))
  syn : ∃ a, w.cell? ⟨14, 0, none⟩ = some (.iface 105 (.pointer (some a)))
  rng : ∃ a, w.cell? ⟨15, 0, none⟩ = some (.iface 105 (.pointer (some a)))
  tab : Lib.TabIs Tryd.prog w "internal/strconv.uint64pow10" .u64 Lib.pow10Tab

theorem lt_of_cell {w : World} {a : Addr} {v : Value} (h : w.cell? a = some v) : a.block < w.heap.size := by
  rcases Nat.lt_or_ge a.block w.heap.size with h' | h'
  · exact h'
  · simp [World.cell?, Array.getElem?_eq_none h'] at h
theorem var_below {n : String} {g : Nat} {cs : Array Value} {w w' : World} (hg : Tryd.prog.globalNamed n = some g) (h : w.var? Tryd.prog n = some cs) (hb : Below w.heap.size w w') : w'.var? Tryd.prog n = some cs := by
  unfold World.var? at h ⊢
  rw [hg] at h ⊢
  simp only [Option.bind_some] at h ⊢
  have hlt : g < w.heap.size := by
    rcases Nat.lt_or_ge g w.heap.size with h' | h'
    · exact h'
    · rw [Array.getElem?_eq_none h'] at h; cases h
  rw [hb.block g hlt]
  exact h
theorem Tryd.gPow10 : Tryd.prog.globalNamed "internal/strconv.uint64pow10" = some 16 := by kernel_rfl

theorem SEnv.below {p : Nat → Addr} {w w' : World} (E : SEnv p w) (hb : Below w.heap.size w w') : SEnv p w' where
  s0 := (hb.cell (p := ⟨1, 0, none⟩) (lt_of_cell E.s0)).trans E.s0
  s1 := (hb.cell (p := ⟨0, 0, none⟩) (lt_of_cell E.s1)).trans E.s1
  syn := by
    obtain ⟨a, h⟩ := E.syn
    exact ⟨a, (hb.cell (p := ⟨14, 0, none⟩) (lt_of_cell h)).trans h⟩
  rng := by
    obtain ⟨a, h⟩ := E.rng
    exact ⟨a, (hb.cell (p := ⟨15, 0, none⟩) (lt_of_cell h)).trans h⟩
  tab := var_below Tryd.gPow10 E.tab hb

theorem joinS_yes {a b n : Int} (ha : isS a = true) (hb : isS b = true) (h0 : 0 ≤ n) (h1 : n ≤ 1073741824) : joinS a b n = ((((a.toNat * powM n.toNat + b.toNat) % Mo : Nat) : Int), 0) := by simp only [joinS, ha, hb, h0, h1, and_self, if_true]
theorem joinS_no {a b n : Int} (h : ¬ (isS a = true ∧ isS b = true ∧ 0 ≤ n ∧ n ≤ 1073741824)) : joinS a b n = (0, 2) := by unfold joinS; rw [if_neg h]

set_option maxRecDepth 100000 in
set_option maxHeartbeats 1000000 in
theorem pkJoin_any (p : Nat → Addr) (a b n : Int) (w : World) (hE : SEnv p w) : Calls Tryd.prog 6 #[.int .i64 a, .int .i64 b, .int .i64 n] w fun e w' => e = .returned (.tuple #[.int .i64 (joinS a b n).1, errV p (joinS a b n).2]) ∧ Below w.heap.size w w' := by
  have hg := hE.s1
  clear hE
  by_cases hall : isS a = true ∧ isS b = true ∧ 0 ≤ n ∧ n ≤ 1073741824
  · obtain ⟨ha, hb, h0, h1⟩ := hall
    have HJ : Hid (joinS a b n = ((((a.toNat * powM n.toNat + b.toNat) % Mo : Nat) : Int), 0)) := joinS_yes ha hb h0 h1
    obtain ⟨x, rfl⟩ := Int.eq_ofNat_of_zero_le (isS_bounds ha).1
    obtain ⟨y, rfl⟩ := Int.eq_ofNat_of_zero_le (isS_bounds hb).1
    obtain ⟨k, rfl⟩ := Int.eq_ofNat_of_zero_le h0
    have hx := (isS_bounds ha).2
    have hy := (isS_bounds hb).2
    have HA : Hid (isS (x : Int) = true) := ha
    have HB : Hid (isS (y : Int) = true) := hb
    have hk0 : decide ((k : Int) < 0) = false := by simp
    have hk1 : decide ((1073741824 : Int) < (k : Int)) = false := by simp; omega
    clear ha hb h0 hg
    go_enter Tryd.func6, Tryd.ntmps6
    go_wp2_with fail
    refine (pkIsSum_any _ _).mono ?_
    rintro e w' ⟨rfl, rfl⟩
    rw [HA.out]
    go_wp2_with fail
    refine (pkIsSum_any _ _).mono ?_
    rintro e w' ⟨rfl, rfl⟩
    rw [HB.out]
    go_wp2_with fail
    refine (pkPower_any k _ (by omega)).mono ?_
    rintro e w' ⟨rfl, rfl⟩
    have hp := powM_lt k
    simp only [Int.toNat_natCast] at HJ
    generalize powM k = q at HJ hp
    unfold Mo at hp HJ
    have hq : x * q ≤ 1000000006 * 1000000006 := Nat.mul_le_mul (by omega) (by omega)
    have e1 : IntKind.i64.wrap ((x : Int) * (q : Int)) = (x : Int) * (q : Int) := by rw [IntKind.wrap_i64, ← Int.natCast_mul]; omega
    have e2 : IntKind.i64.wrap ((x : Int) * (q : Int) + (y : Int)) = (x : Int) * (q : Int) + (y : Int) := by rw [IntKind.wrap_i64, ← Int.natCast_mul]; omega
    have e3 : ((x : Int) * (q : Int) + (y : Int)).tmod 1000000007 = (((x * q + y) % 1000000007 : Nat) : Int) := by rw [← Int.natCast_mul, ← Int.natCast_add]; exact tmod_nat _ _
    go_wp2
    go_ret2
    exact ⟨by rw [HJ.out]; rfl, Below.refl _ _⟩
  · have HJ : Hid (joinS a b n = (0, 2)) := joinS_no hall
    by_cases ha : isS a = true
    · by_cases hb : isS b = true
      · have HA : Hid (isS a = true) := ha
        have HB : Hid (isS b = true) := hb
        by_cases h0 : 0 ≤ n
        · have hk0 : decide (n < 0) = false := by simp; omega
          have hk1 : (1073741824 : Int) < n := by
            rcases Int.lt_or_le 1073741824 n with h | h
            · exact h
            · exact absurd ⟨ha, hb, h0, h⟩ hall
          clear ha hb h0 hall
          go_enter Tryd.func6, Tryd.ntmps6
          go_wp2_with fail
          refine (pkIsSum_any _ _).mono ?_
          rintro e w' ⟨rfl, rfl⟩
          rw [HA.out]
          go_wp2_with fail
          refine (pkIsSum_any _ _).mono ?_
          rintro e w' ⟨rfl, rfl⟩
          rw [HB.out]
          go_wp2_with fail
          go_region
          go_wp2
          go_ret2
          exact ⟨by rw [HJ.out]; rfl, (Below.refl _ _).drew⟩
        · have hk0 : n < 0 := by omega
          clear ha hb h0 hall
          go_enter Tryd.func6, Tryd.ntmps6
          go_wp2_with fail
          refine (pkIsSum_any _ _).mono ?_
          rintro e w' ⟨rfl, rfl⟩
          rw [HA.out]
          go_wp2_with fail
          refine (pkIsSum_any _ _).mono ?_
          rintro e w' ⟨rfl, rfl⟩
          rw [HB.out]
          go_wp2_with fail
          go_region
          go_wp2
          go_ret2
          exact ⟨by rw [HJ.out]; rfl, (Below.refl _ _).drew⟩
      · have HA : Hid (isS a = true) := ha
        have HB : Hid (isS b = false) := Bool.eq_false_iff.2 hb
        clear ha hb hall
        go_enter Tryd.func6, Tryd.ntmps6
        go_wp2_with fail
        refine (pkIsSum_any _ _).mono ?_
        rintro e w' ⟨rfl, rfl⟩
        rw [HA.out]
        go_wp2_with fail
        refine (pkIsSum_any _ _).mono ?_
        rintro e w' ⟨rfl, rfl⟩
        rw [HB.out]
        go_wp2_with fail
        go_region
        go_wp2
        go_ret2
        exact ⟨by rw [HJ.out]; rfl, (Below.refl _ _).drew⟩
    · have HA : Hid (isS a = false) := Bool.eq_false_iff.2 ha
      clear ha hall
      go_enter Tryd.func6, Tryd.ntmps6
      go_wp2_with fail
      refine (pkIsSum_any _ _).mono ?_
      rintro e w' ⟨rfl, rfl⟩
      rw [HA.out]
      go_wp2_with fail
      go_region
      go_wp2
      go_ret2
      exact ⟨by rw [HJ.out]; rfl, (Below.refl _ _).drew⟩
end Go.Proofs.YtfgnngbjklpjcaaDoor
