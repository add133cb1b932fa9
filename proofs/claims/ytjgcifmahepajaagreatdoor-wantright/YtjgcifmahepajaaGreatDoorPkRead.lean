/-
  Package sum: Text, Read: contracts, over this seat's translation.
-/
import Derived.Test.YtjgcifmahepajaaGreatDoorSumEnv
import Derived.Test.YtjgcifmahepajaaGreatDoorShelf
namespace Go.Proofs.YtjgcifmahepajaaGreatDoor
open Go.RowKit Go.Shelf

theorem below_grown (w : World) (k : Nat) (os : Array Obj) : Below w.heap.size w (Go.Sort.grow (w.drewN k) os) :=
  ⟨rfl, rfl, rfl, by simp [Go.Sort.grow, World.drewN], fun k hk => by simp [Go.Sort.grow, World.drewN, Array.getElem?_append_left hk]⟩

/-- strconv.Itoa of a number from 0 on. -/
theorem itoa_any (n : Nat) (w : World) (hn : n < 9223372036854775808) (htab : Lib.TabIs Tryz.prog w "internal/strconv.uint64pow10" .u64 Lib.pow10Tab) :
    Calls Tryz.prog 43 #[.int .i64 n] w fun e w' => e = .returned (.string ⟨(digitsL n).toArray⟩) ∧ Below w.heap.size w w' :=
  (Tryz.strconv_Itoa n (by omega) (by omega) w htab).mono fun e w' ⟨h1, k, os, h2⟩ => ⟨by rw [h1, Lib.itoa_nonneg, itoa_digits], by rw [h2]; exact below_grown w k os⟩

set_option maxRecDepth 100000 in
theorem pkText_any (p : Nat → Addr) (n : Int) (w : World) (hE : SEnv p w) : Calls Tryz.prog 55 #[.int .i64 n] w fun e w' => e = .returned (.string ⟨(textS n).toArray⟩) ∧ Below w.heap.size w w' := by
  by_cases h : isS n = true
  · have HT : Hid (textS n = 115 :: digitsL n.toNat) := text_is h
    obtain ⟨k, rfl⟩ := Int.eq_ofNat_of_zero_le (isS_bounds h).1
    have hk := (isS_bounds h).2
    have HA : Hid (isS (k : Int) = true) := h
    have HE : Hid (SEnv p w) := hE
    have hdl : (digitsL k).length ≤ 10 := digits_length 9 k (by omega)
    clear h hE
    go_enter Tryz.func55, Tryz.ntmps55
    go_wp2_with fail
    refine (pkIsSum_any _ _).mono ?_
    rintro e w' ⟨rfl, rfl⟩
    rw [HA.out]
    go_wp2_with fail
    refine (itoa_any k _ (by omega) HE.out.tab).mono ?_
    rintro e w1 ⟨rfl, hb1⟩
    have HB1 := Lib.hid hb1
    clear hb1
    rw [Int.toNat_natCast] at HT
    generalize digitsL k = ds at HT hdl
    go_wp2
    go_ret
    exact ⟨by rw [HT.out, ← bytes_cons]; rfl, HB1.out⟩
  · have HT : Hid (textS n = []) := by show textS n = _; unfold textS; rw [if_neg h]
    have HA : Hid (isS n = false) := Bool.eq_false_iff.2 h
    clear h hE
    go_enter Tryz.func55, Tryz.ntmps55
    go_wp2_with fail
    refine (pkIsSum_any _ _).mono ?_
    rintro e w' ⟨rfl, rfl⟩
    rw [HA.out]
    go_wp2
    go_ret
    exact ⟨by rw [HT.out]; rfl, Below.refl _ _⟩

/-- What strconv.Atoi tells of a text: a number and no error, or some error that is not nil. -/
theorem atoi_any (p : Nat → Addr) (l : List UInt8) (w : World) (hE : SEnv p w) (hl : l.length ≤ 281474976710656) :
    Calls Tryz.prog 94 #[.string ⟨l.toArray⟩] w fun e w' => ((∃ v, Lib.atoiAll l = .ok v ∧ e = .returned (.tuple #[.int .i64 v, .nilIface])) ∨ ((∀ v, Lib.atoiAll l ≠ .ok v) ∧ ∃ v N, e = .returned (.tuple #[.int .i64 v, .iface 213 (.pointer (some ⟨N, 0, none⟩))]))) ∧ Below w.heap.size w w' := by
  have hs : (⟨l.toArray⟩ : ByteArray).size = l.length := by simp [ByteArray.size]
  rcases h : Lib.atoiAll l with v | _ | _
  · refine (Tryz.strconv_Atoi_ok ⟨l.toArray⟩ (by omega) v (by simpa using h) w).mono fun e w' ⟨h1, h2⟩ => ⟨Or.inl ⟨v, rfl, h1⟩, ?_⟩
    rcases h2 with rfl | ⟨t, rfl⟩
    · exact Below.refl _ _
    · exact Lib.bytesWorld_below _ _ _
  · obtain ⟨a, ha⟩ := hE.syn
    exact (Tryz.strconv_Atoi_syntax ⟨l.toArray⟩ (by omega) (fun v e => by have := h.symm.trans e; cases this) (fun e => by have := h.symm.trans e; cases this) _ w ha (Or.inr ⟨_, _, rfl⟩)).mono fun e w' ⟨N, h1, _, _, h4⟩ => ⟨Or.inr ⟨(fun v hv => by cases hv), _, N, h1⟩, h4⟩
  · obtain ⟨a, ha⟩ := hE.rng
    exact (Tryz.strconv_Atoi_range ⟨l.toArray⟩ (by omega) (by simpa using h) _ w ha (Or.inr ⟨_, _, rfl⟩)).mono fun e w' ⟨N, h1, _, _, h4⟩ => ⟨Or.inr ⟨(fun v hv => by cases hv), _, N, h1⟩, h4⟩

theorem cutPrefix_s (l : List UInt8) (w : World) : Calls Tryz.prog 93 #[.string ⟨l.toArray⟩, .string ⟨#[115]⟩] w fun e w' => e = .returned (.tuple #[.string ⟨(if l.head? = some 115 then l.tail else l).toArray⟩, .bool (decide (l.head? = some 115))]) ∧ w' = w := by
  refine (Tryz.strings_CutPrefix ⟨l.toArray⟩ ⟨#[115]⟩ w).mono fun e w' ⟨h1, h2⟩ => ⟨?_, h2⟩
  rw [h1]
  cases l with
  | nil => rfl
  | cons b r =>
    by_cases hb : b = 115
    · subst hb
      simp [Lib.trimPrefix, Lib.hasPrefix, List.isPrefixOf]
    · have hb' : ¬ (115 : UInt8) = b := fun e => hb e.symm
      simp [Lib.trimPrefix, Lib.hasPrefix, List.isPrefixOf, hb, hb']

theorem readS_no {s : List UInt8} (h : ∀ v, Lib.atoiAll s.tail = .ok v → s.head? = some 115 → textS v ≠ s) : readS s = (0, 1) := by
  unfold readS
  rw [if_neg]
  rintro ⟨h1, h2⟩
  have hb := isS_bounds h2
  have e := number_inv hb.1
  have ht := text_read ⟨h1, h2⟩
  obtain ⟨n, hn⟩ := Int.eq_ofNat_of_zero_le hb.1
  rw [hn] at e ht
  rw [Int.toNat_natCast] at e
  exact h n (by rw [e]; exact atoi_digits (by omega)) h1 ht

theorem readS_yes {s : List UInt8} {v : Int} (h1 : s.head? = some 115) (h2 : textS v = s) : readS s = (v, 0) := by
  have hv : isS v = true := by
    rcases hc : isS v with _ | _
    · exfalso
      unfold textS at h2
      rw [hc] at h2
      simp at h2
      rw [h2] at h1
      cases h1
    · rfl
  rw [← h2]
  exact read_text hv

set_option maxRecDepth 100000 in
set_option maxHeartbeats 1000000 in
theorem pkRead_any (p : Nat → Addr) (l : List UInt8) (w : World) (hE : SEnv p w) (hl : l.length ≤ 281474976710656) :
    Calls Tryz.prog 61 #[.string ⟨l.toArray⟩] w fun e w' => e = .returned (.tuple #[.int .i64 (readS l).1, errV p (readS l).2]) ∧ Below w.heap.size w w' := by
  have HE : Hid (SEnv p w) := hE
  clear hE
  by_cases hh : l.head? = some 115
  · have HH : Hid (l.head? = some 115) := hh
    have htl : l.tail.length ≤ 281474976710656 := by rw [List.length_tail]; omega
    clear hh
    go_enter Tryz.func61, Tryz.ntmps61
    go_wp2_with fail
    refine (cutPrefix_s l _).mono ?_
    rintro e w' ⟨rfl, rfl⟩
    rw [if_pos HH.out, decide_eq_true HH.out]
    go_wp2_with fail
    refine (atoi_any p l.tail _ HE.out htl).mono ?_
    rintro e w1 ⟨hcase, hb1⟩
    have HB1 := Lib.hid hb1
    have HE1 := Lib.hid (HE.out.below hb1)
    clear hb1 htl
    rcases hcase with ⟨v, hv, rfl⟩ | ⟨hv, v, N, rfl⟩
    · have HV := Lib.hid hv
      clear hv
      go_wp2_with fail
      refine (pkText_any p v _ HE1.out).mono ?_
      rintro e w2 ⟨rfl, hb2⟩
      have HB2 := Lib.hid (HB1.out.trans (hb2.mono HB1.out.size))
      have hg := (HE1.out.below hb2).s0
      clear hb2
      by_cases ht : textS v = l
      · have HR := Lib.hid (readS_yes HH.out ht)
        rw [ht]
        clear ht hg
        go_wp2
        go_ret2
        exact ⟨by rw [HR.out]; rfl, HB2.out⟩
      · have HR : Hid (readS l = (0, 1)) := readS_no fun u hu _ => by
          have := HV.out.symm.trans hu
          cases this
          exact ht
        clear HV
        generalize textS v = tx at ht
        have ht' : (tx == l) = false := by simpa using ht
        clear ht
        go_wp2_with fail
        go_region
        go_wp2
        go_ret2
        exact ⟨by rw [HR.out]; rfl, HB2.out.drew⟩
    · have HR : Hid (readS l = (0, 1)) := readS_no fun u hu _ => absurd hu (hv u)
      have hg := HE1.out.s0
      clear hv
      go_wp2_with fail
      go_region
      go_wp2
      go_ret2
      exact ⟨by rw [HR.out]; rfl, HB1.out.drew⟩
  · have HH : Hid (¬ l.head? = some 115) := hh
    have HR : Hid (readS l = (0, 1)) := readS_no fun u _ h => absurd h hh
    clear hh
    go_enter Tryz.func61, Tryz.ntmps61
    go_wp2_with fail
    refine (cutPrefix_s l _).mono ?_
    rintro e w' ⟨rfl, rfl⟩
    rw [if_neg HH.out, decide_eq_false HH.out]
    go_wp2_with fail
    refine (atoi_any p l _ HE.out hl).mono ?_
    rintro e w1 ⟨hcase, hb1⟩
    have HB1 := Lib.hid hb1
    have hg := (HE.out.below hb1).s0
    clear hb1
    rcases hcase with ⟨v, hv, rfl⟩ | ⟨hv, v, N, rfl⟩
    · clear hv
      go_wp2_with fail
      go_region
      go_wp2
      go_ret2
      exact ⟨by rw [HR.out]; rfl, HB1.out.drew⟩
    · clear hv
      go_wp2_with fail
      go_region
      go_wp2
      go_ret2
      exact ⟨by rw [HR.out]; rfl, HB1.out.drew⟩
end Go.Proofs.YtjgcifmahepajaaGreatDoor
