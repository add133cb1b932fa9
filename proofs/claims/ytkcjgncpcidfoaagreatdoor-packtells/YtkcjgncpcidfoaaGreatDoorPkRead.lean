/-
  Package sum: Text, Read: contracts, over this seat's translation.
-/
import Derived.Test.YtkcjgncpcidfoaaGreatDoorSumEnv
import Derived.Test.YtkcjgncpcidfoaaGreatDoorShelf
namespace Go.Proofs.YtkcjgncpcidfoaaGreatDoor
open Go.RowKit Go.Shelf

theorem below_grown (w : World) (k : Nat) (os : Array Obj) : Below w.heap.size w (Go.Sort.grow (w.drewN k) os) :=
  ⟨rfl, rfl, rfl, by simp [Go.Sort.grow, World.drewN], fun k hk => by simp [Go.Sort.grow, World.drewN, Array.getElem?_append_left hk]⟩

/-- strconv.Itoa of a number from 0 on. -/
theorem itoa_any (n : Nat) (w : World) (hn : n < 9223372036854775808) (htab : Lib.TabIs Tryz.prog w "internal/strconv.uint64pow10" .u64 Lib.pow10Tab) :
    Calls Tryz.prog 30 #[.int .i64 n] w fun e w' => e = .returned (.string ⟨(digitsL n).toArray⟩) ∧ Below w.heap.size w w' :=
  (Tryz.strconv_Itoa n (by omega) (by omega) w htab).mono fun e w' ⟨h1, k, os, h2⟩ => ⟨by rw [h1, Lib.itoa_nonneg, itoa_digits], by rw [h2]; exact below_grown w k os⟩

/-- What strconv.Atoi tells of a text: a number and no error, or some error that is not nil. -/
theorem atoi_any (p : Nat → Addr) (l : List UInt8) (w : World) (hE : SEnv p w) (hl : l.length ≤ 281474976710656) :
    Calls Tryz.prog 70 #[.string ⟨l.toArray⟩] w fun e w' => ((∃ v, Lib.atoiAll l = .ok v ∧ e = .returned (.tuple #[.int .i64 v, .nilIface])) ∨ ((∀ v, Lib.atoiAll l ≠ .ok v) ∧ ∃ v N, e = .returned (.tuple #[.int .i64 v, .iface 155 (.pointer (some ⟨N, 0, none⟩))]))) ∧ Below w.heap.size w w' := by
  have hs : (⟨l.toArray⟩ : ByteArray).size = l.length := by simp [ByteArray.size]
  rcases h : Lib.atoiAll l with v | _ | _
  · refine (Tryz.strconv_Atoi_ok ⟨l.toArray⟩ (by omega) v (by simpa using h) w).mono fun e w' ⟨h1, h2⟩ => ⟨Or.inl ⟨v, rfl, h1⟩, ?_⟩
    rcases h2 with rfl | ⟨t, rfl⟩
    · exact Below.refl _ _
    · exact Lib.bytesWorld_below _ _ _
  · obtain ⟨a, ha⟩ := hE.syn
    exact (Tryz.strconv_Atoi_syntax ⟨l.toArray⟩ (by omega) (fun v e => by have := h.symm.trans e; cases this) (fun e => by have := h.symm.trans e; cases this) _ w ha (Or.inr ⟨_, _, rfl⟩)).mono fun e w' ⟨N, h1, _, _, h4⟩ => ⟨Or.inr ⟨(fun v hv => by cases hv), _, N, h1⟩, h4⟩
  · obtain ⟨a, ha⟩ := hE.rng
    exact (Tryz.strconv_Atoi_range ⟨l.toArray⟩ (by omega) (by simpa using h) _ w ha (Or.inr ⟨_, _, rfl⟩)).mono fun e w' ⟨N, h1, _, _, h4⟩ => ⟨Or.inr ⟨(fun v hv => by cases hv), _, N, h1⟩, h4⟩

theorem cutPrefix_s (l : List UInt8) (w : World) : Calls Tryz.prog 39 #[.string ⟨l.toArray⟩, .string ⟨#[115]⟩] w fun e w' => e = .returned (.tuple #[.string ⟨(if l.head? = some 115 then l.tail else l).toArray⟩, .bool (decide (l.head? = some 115))]) ∧ w' = w := by
  refine (Tryz.strings_CutPrefix ⟨l.toArray⟩ ⟨#[115]⟩ w).mono fun e w' ⟨h1, h2⟩ => ⟨?_, h2⟩
  rw [h1]
  cases l with
  | nil => rfl
  | cons b r =>
    by_cases hb : b = 115
    · subst hb
      simp [Lib.trimPrefix, Lib.hasPrefix, List.isPrefixOf]
    · have hb' : ¬ (115 : UInt8) = b := fun e => hb e.symm
      simp [Lib.trimPrefix, Lib.hasPrefix, List.isPrefixOf, hb, hb']

theorem readS_no {s : List UInt8} (h : ∀ v, Lib.atoiAll s.tail = .ok v → s.head? = some 115 → textS v ≠ s) : readS s = (0, 1) := by
  unfold readS
  rw [if_neg]
  rintro ⟨h1, h2⟩
  have hb := isS_bounds h2
  have e := number_inv hb.1
  have ht := text_read ⟨h1, h2⟩
  obtain ⟨n, hn⟩ := Int.eq_ofNat_of_zero_le hb.1
  rw [hn] at e ht
  rw [Int.toNat_natCast] at e
  exact h n (by rw [e]; exact atoi_digits (by omega)) h1 ht

theorem readS_yes {s : List UInt8} {v : Int} (h1 : s.head? = some 115) (h2 : textS v = s) : readS s = (v, 0) := by
  have hv : isS v = true := by
    rcases hc : isS v with _ | _
    · exfalso
      unfold textS at h2
      rw [hc] at h2
      simp at h2
      rw [h2] at h1
      cases h1
    · rfl
  rw [← h2]
  exact read_text hv

end Go.Proofs.YtkcjgncpcidfoaaGreatDoor
