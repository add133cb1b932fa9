/-
  Package sum: Text, Read: contracts, over this seat's translation.
-/
import Derived.Test.YtcnejkbbheihiaaDoorSumEnv
import Derived.Test.YtcnejkbbheihiaaDoorShelf
namespace Go.Proofs.YtcnejkbbheihiaaDoor
open Go.RowKit Go.Shelf

theorem below_grown (w : World) (k : Nat) (os : Array Obj) : Below w.heap.size w (Go.Sort.grow (w.drewN k) os) :=
  ⟨rfl, rfl, rfl, by simp [Go.Sort.grow, World.drewN], fun k hk => by simp [Go.Sort.grow, World.drewN, Array.getElem?_append_left hk]⟩

/-- strconv.Itoa of a number from 0 on. -/
theorem itoa_any (n : Nat) (w : World) (hn : n < 9223372036854775808) (htab : Lib.TabIs Tryd.prog w "internal/strconv.uint64pow10" .u64 Lib.pow10Tab) :
    Calls Tryd.prog 37 #[.int .i64 n] w fun e w' => e = .returned (.string ⟨(digitsL n).toArray⟩) ∧ Below w.heap.size w w' :=
  (Tryd.strconv_Itoa n (by omega) (by omega) w htab).mono fun e w' ⟨h1, k, os, h2⟩ => ⟨by rw [h1, Lib.itoa_nonneg, itoa_digits], by rw [h2]; exact below_grown w k os⟩

theorem readS_no {s : List UInt8} (h : ∀ v, Lib.atoiAll s.tail = .ok v → s.head? = some 115 → textS v ≠ s) : readS s = (0, 1) := by
  unfold readS
  rw [if_neg]
  rintro ⟨h1, h2⟩
  have hb := isS_bounds h2
  have e := number_inv hb.1
  have ht := text_read ⟨h1, h2⟩
  obtain ⟨n, hn⟩ := Int.eq_ofNat_of_zero_le hb.1
  rw [hn] at e ht
  rw [Int.toNat_natCast] at e
  exact h n (by rw [e]; exact atoi_digits (by omega)) h1 ht

theorem readS_yes {s : List UInt8} {v : Int} (h1 : s.head? = some 115) (h2 : textS v = s) : readS s = (v, 0) := by
  have hv : isS v = true := by
    rcases hc : isS v with _ | _
    · exfalso
      unfold textS at h2
      rw [hc] at h2
      simp at h2
      rw [h2] at h1
      cases h1
    · rfl
  rw [← h2]
  exact read_text hv

end Go.Proofs.YtcnejkbbheihiaaDoor
