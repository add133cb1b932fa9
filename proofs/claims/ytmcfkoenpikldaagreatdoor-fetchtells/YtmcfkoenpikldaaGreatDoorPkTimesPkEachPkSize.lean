/-
  Own texts of the proof, joined by program: PkTimes, PkEach, PkSize.
-/
import Derived.Test.YtmcfkoenpikldaaGreatDoorDigitsReadPurePressPureSumPure
import Derived.Test.YtmcfkoenpikldaaGreatDoorSlotsFaultedErrAt
import Derived.Test.YtmcfkoenpikldaaGreatDoorRefDigitsRefSumPkSumSumEnv
import Derived.Deep.QuietTactic
import Derived.BigQuiet
import Derived.Lib.Hide
import Derived.Test.YtmcfkoenpikldaaGreatDoorShelf
import Derived.OneCell
/-
  Package press: isDigit, readTimes, wrongAt, add: contracts, over this seat's translation.
-/
namespace Go.Proofs.YtmcfkoenpikldaaGreatDoor
open Go.RowKit

theorem pressDigit_any (b : UInt8) (w : World) : Calls Tryz.prog 328 #[.int .u8 b.toNat] w fun e w' => e = .returned (.bool (isDigit b)) ∧ w' = w := by
  by_cases h1 : 48 ≤ b.toNat
  · by_cases h2 : b.toNat ≤ 57
    · have HD : Hid (isDigit b = true) := by show isDigit b = true; simp [isDigit, h1, h2]
      have h1' : (48 : Int) ≤ (b.toNat : Int) := by omega
      have h2' : (b.toNat : Int) ≤ 57 := by omega
      go_enter Tryz.func328, Tryz.ntmps328
      go_wp2
      go_ret
      exact ⟨by rw [HD.out]; rfl, rfl⟩
    · have HD : Hid (isDigit b = false) := by show isDigit b = false; simp [isDigit]; omega
      have h1' : (48 : Int) ≤ (b.toNat : Int) := by omega
      have h2' : ¬ (b.toNat : Int) ≤ 57 := by omega
      go_enter Tryz.func328, Tryz.ntmps328
      go_wp2
      go_ret
      exact ⟨by rw [HD.out]; rfl, rfl⟩
  · have HD : Hid (isDigit b = false) := by show isDigit b = false; simp [isDigit]; omega
    have h1' : ¬ (48 : Int) ≤ (b.toNat : Int) := by omega
    go_enter Tryz.func328, Tryz.ntmps328
    go_wp2
    go_ret
    exact ⟨by rw [HD.out]; rfl, rfl⟩

theorem pressDigit_is (z : Int) (b : UInt8) (w : World) (hz : z = b.toNat) : Calls Tryz.prog 328 #[.int .u8 z] w fun e w' => e = .returned (.bool (isDigit b)) ∧ w' = w := by
  subst hz
  exact pressDigit_any b w

theorem drop_at {l : List UInt8} {j : Nat} (h : j < l.length) : l.drop j = l[j] :: l.drop (j + 1) := List.drop_eq_getElem_cons h

/-- A byte of a digit, less the sign of zero. -/
theorem sub_digit {b : UInt8} (h : isDigit b = true) : IntKind.u8.wrap ((b.toNat : Int) - 48) = ((b.toNat - 48 : Nat) : Int) := by
  have := digit_le h
  rw [IntKind.wrap_u8]
  omega

set_option maxRecDepth 100000 in
set_option maxHeartbeats 2000000 in
theorem readTimes_any (s : List UInt8) (i : Nat) (w : World) (hs : s.length ≤ 1000000000) (hi : i ≤ s.length) :
    Calls Tryz.prog 323 #[.string ⟨s.toArray⟩, .int .i64 i] w fun e w' => e = .returned (.tuple #[.int .i64 (scan 0 0 (s.drop i)).1, .int .i64 ((i + (scan 0 0 (s.drop i)).2 : Nat) : Int)]) ∧ w' = w := by
  go_enter Tryz.func323, Tryz.ntmps323
  go_wp2_with fail
  go_loopw [4, 5] (fun nv ev wr => ∃ k n j : Nat, j = i + k ∧ k ≤ 9 ∧ j ≤ s.length ∧ scan k n (s.drop j) = scan 0 0 (s.drop i) ∧ Digs k n ∧ nv = .int .i64 n ∧ ev = .int .i64 (j : Int) ∧ wr = w) (fun _ ev _ => s.length - (intOf ev).toNat)
  case atStart => exact ⟨0, 0, i, rfl, by omega, by omega, rfl, digs_zero, rfl, rfl, rfl⟩
  case round =>
    obtain ⟨k, n, j, hj, hk, hik, hsc, hdg, rfl, rfl, hb⟩ := hrel
    subst hb
    have HJ := Lib.hid hj
    have HJ2 : Hid ((i : Int) + (k : Int) = (j : Int)) := by show _ = _; omega
    have hj0 : (i : Int) ≤ (j : Int) := by omega
    have hjk := hj
    clear hj
    have hn := digs_bound hdg hk
    have HG := Lib.hid hdg
    by_cases hlt : j < s.length
    · have HD := Lib.hid (drop_at hlt)
      have hjs : j < ({ data := s.toArray } : ByteArray).size := by simp [ByteArray.size]; omega
      obtain ⟨b, hb⟩ : ∃ b, s[j] = b := ⟨_, rfl⟩
      have hbj : ({ data := s.toArray } : ByteArray)[j]'hjs = b := hb
      rw [hb] at HD
      have HS := Lib.hid hsc
      clear hb hsc hdg
      by_cases hk9 : k < 9
      · have hk9' : (j : Int) - (i : Int) < 9 := by omega
        clear hjk
        by_cases hd : isDigit b = true
        · by_cases hz : k = 0 ∧ b = 48
          · obtain ⟨rfl, rfl⟩ := hz
            obtain rfl : n = 0 := HG.out.2.2 rfl
            have HR : Hid (scan 0 0 (s.drop i) = (0, 0)) := by
              show scan 0 0 (s.drop i) = _
              rw [← HS.out, HD.out, scan_end (by simp)]
            clear HS HG
            go_wp2_with fail
            refine (pressDigit_is _ 48 _ (by first | rfl | simp)).mono ?_
            rintro e w' ⟨rfl, rfl⟩
            rw [hd]
            go_wp2
            go_ret2
            exact ⟨by first | (rw [HR.out, ← HJ.out]; rfl) | (rw [HR.out]; show Ending.returned (.tuple #[.int .i64 n, .int .i64 j]) = .returned (.tuple #[.int .i64 n, .int .i64 ((i : Int) + (k : Int))]); rw [HJ2.out]), rfl⟩
          · have HN : Hid (scan (k + 1) (10 * n + (b.toNat - 48)) (s.drop (j + 1)) = scan 0 0 (s.drop i)) := by
              show _ = _
              rw [← HS.out, HD.out, scan_go ⟨hk9, hd, hz⟩]
            have HG2 := Lib.hid (digs_go HG.out hd hz)
            have hsub := sub_digit hd
            have hbd := digit_le hd
            have hnz : (n = 0 ∧ (b.toNat : Int) ≠ 48) ∨ n ≠ 0 := by
              by_cases hn0 : n = 0
              · refine Or.inl ⟨hn0, fun e => hz ⟨HG.out.2.1 hn0, UInt8.toNat_inj.1 (by show b.toNat = 48; omega)⟩⟩
              · exact Or.inr hn0
            clear HS HG hz
            rcases hnz with ⟨rfl, h48⟩ | hn0
            · have h48' : ((b.toNat : Int) == 48) = false := by simpa using h48
              go_wp2_with fail
              refine (pressDigit_any b _).mono ?_
              rintro e w' ⟨rfl, rfl⟩
              rw [hd]
              go_wp2
              go_roundw
              case rel => exact ⟨k + 1, 10 * 0 + (b.toNat - 48), j + 1, by rw [HJ.out]; omega, by omega, by omega, HN.out, HG2.out, by go_num, by go_num, trivial⟩
              case measure => simp [intOf]; omega
            · have hn0' : ((n : Int) == 0) = false := by simp; omega
              go_wp2_with fail
              refine (pressDigit_any b _).mono ?_
              rintro e w' ⟨rfl, rfl⟩
              rw [hd]
              go_wp2
              go_roundw
              case rel => exact ⟨k + 1, 10 * n + (b.toNat - 48), j + 1, by rw [HJ.out]; omega, by omega, by omega, HN.out, HG2.out, by go_num, by go_num, trivial⟩
              case measure => simp [intOf]; omega
        · have hd' : isDigit b = false := Bool.eq_false_iff.2 hd
          have HR : Hid (scan 0 0 (s.drop i) = (n, k)) := by
            show scan 0 0 (s.drop i) = _
            rw [← HS.out, HD.out, scan_end (by rw [hd']; simp)]
          clear HS HG
          go_wp2_with fail
          refine (pressDigit_any b _).mono ?_
          rintro e w' ⟨rfl, rfl⟩
          rw [hd']
          go_wp2
          go_ret2
          exact ⟨by first | (rw [HR.out, ← HJ.out]; rfl) | (rw [HR.out]; show Ending.returned (.tuple #[.int .i64 n, .int .i64 j]) = .returned (.tuple #[.int .i64 n, .int .i64 ((i : Int) + (k : Int))]); rw [HJ2.out]), rfl⟩
      · have hk9' : ¬ (j : Int) - (i : Int) < 9 := by omega
        have HR : Hid (scan 0 0 (s.drop i) = (n, k)) := by
          show scan 0 0 (s.drop i) = _
          rw [← HS.out, HD.out, scan_end (fun h => hk9 h.1)]
        clear HS HG hjk
        go_wp2
        go_ret2
        exact ⟨by first | (rw [HR.out, ← HJ.out]; rfl) | (rw [HR.out]; show Ending.returned (.tuple #[.int .i64 n, .int .i64 j]) = .returned (.tuple #[.int .i64 n, .int .i64 ((i : Int) + (k : Int))]); rw [HJ2.out]), rfl⟩
    · have HR : Hid (scan 0 0 (s.drop i) = (n, k)) := by
        show scan 0 0 (s.drop i) = _
        rw [← hsc, List.drop_eq_nil_of_le (by omega)]
        rfl
      clear hsc HG hdg hjk
      go_wp2
      go_ret2
      exact ⟨by first | (rw [HR.out, ← HJ.out]; rfl) | (rw [HR.out]; show Ending.returned (.tuple #[.int .i64 n, .int .i64 j]) = .returned (.tuple #[.int .i64 n, .int .i64 ((i : Int) + (k : Int))]); rw [HJ2.out]), rfl⟩

/-- An error with its place. -/
theorem wrongAt_any (p : Nat → Addr) (i : Nat) (w : World) (hE : Env p w) : Calls Tryz.prog 324 #[.int .i64 i] w fun e w' => ∃ v, e = .returned v ∧ ErrAt p w' v 1 i ∧ Below w.heap.size w w' := by
  have hg := hE.s0
  clear hE
  go_enter Tryz.func324, Tryz.ntmps324
  go_wp2
  go_ret
  exact ⟨_, rfl, .inr (.inr ⟨0, w.heap.size, 0, rfl, by decide, rfl, by simp, by simp⟩), (Below.refl _ _).alloc (Nat.le_refl _) _⟩
end Go.Proofs.YtmcfkoenpikldaaGreatDoor
/-
  Package press: eachPressed, with whatever function it hands the runs to: a contract, over this seat's translation.
-/
namespace Go.Proofs.YtmcfkoenpikldaaGreatDoor
open Go.RowKit Go.Shelf

theorem colon_head (l : List UInt8) : Lib.hasPrefix l [58] = decide (l.head? = some 58) := by
  cases l with
  | nil => rfl
  | cons b r =>
    by_cases h : b = 58
    · subst h
      simp [Lib.hasPrefix, List.isPrefixOf]
    · have h' : ¬ 58 = b := fun e => h e.symm
      simp [Lib.hasPrefix, List.isPrefixOf, h, h']
theorem extract_end (l : List UInt8) (i : Nat) : ({ data := l.toArray } : ByteArray).extract i l.length = ⟨(l.drop i).toArray⟩ := by
  apply ByteArray.ext
  simp [List.take_of_length_le]
theorem colon_is (x : ByteArray) (l : List UInt8) (r : Bool) (w : World) (hx : x = ⟨l.toArray⟩) (h : decide (l.head? = some 58) = r) : Calls Tryz.prog 227 #[.string x, .string ⟨#[58]⟩] w fun e w' => e = .returned (.bool r) ∧ w' = w := by
  subst hx
  refine (Tryz.strings_HasPrefix _ _ w).mono fun e w' ⟨h1, h2⟩ => ⟨?_, h2⟩
  rw [h1, ← h, ← colon_head]

/-- What was read, and what is left. -/
theorem read_on {s : List UInt8} {i k n : Nat} {d : List (Nat × UInt8)} {b : UInt8} (hr : readL s = (d ++ (readL (s.drop i)).1, (readL (s.drop i)).2.map (· + i))) (hl : readL (s.drop i) = ((n, b) :: (readL ((s.drop i).drop (k + 2))).1, (readL ((s.drop i).drop (k + 2))).2.map (· + (k + 2)))) :
    readL s = ((d ++ [(n, b)]) ++ (readL (s.drop (i + k + 2))).1, (readL (s.drop (i + k + 2))).2.map (· + (i + k + 2))) := by
  have e : (s.drop i).drop (k + 2) = s.drop (i + k + 2) := by rw [List.drop_drop]; congr 1
  rw [e] at hl
  rw [hr, hl]
  simp only [List.append_assoc, List.cons_append, List.nil_append, Option.map_map]
  congr 2
  funext x
  simp only [Function.comp]
  omega
theorem read_bad {s : List UInt8} {i k : Nat} {d : List (Nat × UInt8)} (hr : readL s = (d ++ (readL (s.drop i)).1, (readL (s.drop i)).2.map (· + i))) (hl : readL (s.drop i) = ([], some k)) : readL s = (d, some (i + k)) := by
  rw [hr, hl]
  simp only [List.append_nil, Option.map_some]
  rw [Nat.add_comm]

theorem wrongAt_is (p : Nat → Addr) (z : Int) (i : Nat) (w : World) (hz : z = i) (hE : Env p w) : Calls Tryz.prog 324 #[.int .i64 z] w fun e w' => ∃ v, e = .returned v ∧ ErrAt p w' v 1 i ∧ Below w.heap.size w w' := by
  subst hz
  exact wrongAt_any p i w hE

set_option maxRecDepth 100000 in
set_option maxHeartbeats 4000000 in
theorem eachPressed_any (p : Nat → Addr) (s : List UInt8) (g : Nat) (lb : Array Value) (eg : ∀ args w, (callFunc g args).run Tryz.prog w = .ok (.enter g args) w) (I : List (Nat × UInt8) → World → Prop) (w : World) (hs : s.length ≤ 1000000000)
    (hI : I [] w) (hE : ∀ d w, I d w → Env p w)
    (hh : ∀ d n b tl w, (readL s).1 = d ++ (n, b) :: tl → I d w → Calls Tryz.prog g (#[.int .i64 (n : Nat), .int .u8 (b : UInt8).toNat] ++ lb) w fun e w' => e = .returned (.tuple #[]) ∧ I (d ++ [(n, b)]) w') :
    Calls Tryz.prog 308 #[.string ⟨s.toArray⟩, .func (.func g) #[] lb] w fun e w' => ∃ v w1, e = .returned v ∧ I (readL s).1 w1 ∧ Below w1.heap.size w1 w' ∧ ErrAt p w' v (placeE (readL s).2).1 (placeE (readL s).2).2 := by
  have HI := Lib.hid hI
  have HE := Lib.hid hE
  have HH := Lib.hid hh
  clear hI hE hh
  go_enter Tryz.func308, Tryz.ntmps308
  go_wp2_with fail
  go_loopw [5] (fun av wr => ∃ (i : Nat) (d : List (Nat × UInt8)), i ≤ s.length ∧ av = .int .i64 (i : Int) ∧ I d wr ∧ readL s = (d ++ (readL (s.drop i)).1, (readL (s.drop i)).2.map (· + i))) (fun av _ => s.length - (intOf av).toNat)
  case atStart => exact ⟨0, [], by omega, rfl, HI.out, by simp⟩
  case round =>
    obtain ⟨i, d, hi, rfl, hid, hr⟩ := hrel
    have HD := Lib.hid hid
    have HR := Lib.hid hr
    clear hid hr HI
    by_cases hlt : i < s.length
    · have hne : s.drop i ≠ [] := fun e => by have := congrArg List.length e; simp at this; omega
      have hdl : (s.drop i).length = s.length - i := List.length_drop
      have hsl := scan_le (s.drop i) 0 0 (by decide)
      have hsg := scan_digs (s.drop i) 0 0 digs_zero
      have hbd := digs_bound hsg hsl.2.1
      have HNE := Lib.hid hne
      have HSG := Lib.hid hsg
      have HB1 := Lib.hid (fun h => readL_bad (l := s.drop i) hne h)
      have HB2 := Lib.hid (fun h0 hc hl => readL_short (l := s.drop i) hne h0 hc hl)
      have HB3 := Lib.hid (fun h0 hc hl => readL_more (l := s.drop i) hne h0 hc hl)
      clear hne hsg
      go_wp2_with fail
      refine (readTimes_any s i _ hs hi).mono ?_
      rintro e w' ⟨rfl, rfl⟩
      obtain ⟨q, hq⟩ : ∃ q, scan 0 0 (s.drop i) = q := ⟨_, rfl⟩
      rw [hq] at hsl hbd HSG HB1 HB2 HB3 ⊢
      clear hq
      obtain ⟨n, k⟩ := q
      simp only at hsl hbd HSG HB1 HB2 HB3 ⊢
      obtain ⟨j, hj⟩ : ∃ j, i + k = j := ⟨_, rfl⟩
      have hjl : j ≤ s.length := by omega
      have hdd : (s.drop i).drop k = s.drop j := by rw [List.drop_drop, hj]
      have HDD := Lib.hid hdd
      have HJ := Lib.hid hj
      rw [hj]
      clear hj hdd
      by_cases hk : k = 0
      · obtain rfl : n = 0 := HSG.out.2.2 hk
        have HBD := Lib.hid (read_bad HR.out (HB1.out (Or.inl hk)))
        clear HB1 HB2 HB3 hsl HSG hk
        go_wp2_with fail
        refine (wrongAt_any p j _ (HE.out _ _ HD.out)).mono ?_
        rintro e w1 ⟨v, rfl, hv, hb⟩
        go_wp2
        go_ret
        refine ⟨_, _, rfl, ?_, hb, ?_⟩
        · rw [HBD.out]; exact HD.out
        · rw [HBD.out, HJ.out]; exact hv
      · have hn0 : n ≠ 0 := fun e => hk (HSG.out.2.1 e)
        have hn0' : ((n : Int) == 0) = false := by simp; omega
        by_cases hc : (s.drop j).head? = some 58
        · have hjlt : j < s.length := by
            rcases Nat.lt_or_ge j s.length with h | h
            · exact h
            · rw [List.drop_eq_nil_of_le h] at hc; cases hc
          by_cases hend : j + 1 = s.length
          · have HBD := Lib.hid (read_bad HR.out (HB2.out hk (by rw [HDD.out]; exact hc) (by have := HJ.out; omega)))
            have hend' : (j : Int) + 1 = (s.length : Int) := by omega
            have HEND := Lib.hid hend
            clear HB1 HB2 HB3 hsl HSG hk hend
            go_wp2_with fail
            refine (colon_is _ (s.drop j) true _ (extract_end s j) (decide_eq_true hc)).mono ?_
            rintro e w1 ⟨rfl, rfl⟩
            go_wp2_with fail
            refine (wrongAt_is p _ (j + 1) _ (by omega) (HE.out _ _ HD.out)).mono ?_
            rintro e w1 ⟨v, rfl, hv, hb⟩
            go_wp2
            go_ret
            refine ⟨_, _, rfl, ?_, hb, ?_⟩
            · rw [HBD.out]; exact HD.out
            · rw [HBD.out, ← Nat.add_assoc, HJ.out]; exact hv
          · have HBD := Lib.hid (read_on HR.out (HB3.out hk (by rw [HDD.out]; exact hc) (by have := HJ.out; omega)))
            have hjs : j + 1 < s.length := by omega
            have hjs' : j + 1 < ({ data := s.toArray } : ByteArray).size := by simp [ByteArray.size]; omega
            have hend' : ((j : Int) + 1 == (s.length : Int)) = false := by simp; omega
            obtain ⟨b, hb⟩ : ∃ b, s[j + 1] = b := ⟨_, rfl⟩
            have hbj : ({ data := s.toArray } : ByteArray)[j + 1]'hjs' = b := hb
            have hgb : (s.drop i).getD (k + 1) 0 = b := by
              have : i + (k + 1) = j + 1 := by have := HJ.out; omega
              rw [List.getD_eq_getElem?_getD, List.getElem?_drop, this, List.getElem?_eq_getElem hjs, hb]
              rfl
            rw [hgb, HJ.out] at HBD
            have cS := HH.out d n b _ _ (congrArg Prod.fst (HBD.out.trans (by rw [List.append_assoc]))) HD.out
            clear HB1 HB2 HB3 hsl HSG hk hend hb hgb HH HR
            go_wp2_with fail
            refine (colon_is _ (s.drop j) true _ (extract_end s j) (decide_eq_true hc)).mono ?_
            rintro e w1 ⟨rfl, rfl⟩
            go_wp2_with (go_at_fn g; refine cS.mono ?_; rintro e w2 ⟨rfl, hI2⟩)
            go_roundw
            case rel => exact ⟨j + 2, d ++ [(n, b)], by omega, by go_num, hI2, HBD.out⟩
            case measure => have := HJ.out; simp [intOf]; omega
        · have HBD := Lib.hid (read_bad HR.out (HB1.out (Or.inr (by rw [HDD.out]; exact hc))))
          clear HB1 HB2 HB3 hsl HSG hk
          go_wp2_with fail
          refine (colon_is _ (s.drop j) false _ (extract_end s j) (decide_eq_false hc)).mono ?_
          rintro e w1 ⟨rfl, rfl⟩
          go_wp2_with fail
          refine (wrongAt_any p j _ (HE.out _ _ HD.out)).mono ?_
          rintro e w1 ⟨v, rfl, hv, hb⟩
          go_wp2
          go_ret
          refine ⟨_, _, rfl, ?_, hb, ?_⟩
          · rw [HBD.out]; exact HD.out
          · rw [HBD.out, HJ.out]; exact hv
    · obtain rfl : i = s.length := by omega
      have HN : Hid (readL s = (d, none)) := by
        show readL s = _
        rw [HR.out, List.drop_length, readL_nil]
        simp
      clear HR
      go_wp2
      go_ret
      refine ⟨_, _, rfl, ?_, Below.refl _ _, ?_⟩
      · rw [HN.out]; exact HD.out
      · rw [HN.out]; exact ErrAt.fine p _
end Go.Proofs.YtmcfkoenpikldaaGreatDoor
/-
  Package press: Size: a contract, over this seat's translation.
-/
namespace Go.Proofs.YtmcfkoenpikldaaGreatDoor
open Go.RowKit Go.Shelf

theorem pressAdd_any (n k : Nat) (w : World) (hn : n ≤ 1000000000000000000) (hk : k ≤ 999999999) : Calls Tryz.prog 321 #[.int .i64 n, .int .i64 k] w fun e w' => e = .returned (.int .i64 ((n + k : Nat) : Int)) ∧ w' = w := by
  have hmin : min (n : Int) (9223372036854775807 - (k : Int)) = (n : Int) := by omega
  go_enter Tryz.func321, Tryz.ntmps321
  go_wp2
  go_ret
  exact ⟨by rw [Int.natCast_add]; rfl, rfl⟩

theorem sizeHand_any (x n : Nat) (b : Int) (a : Addr) (w : World) (hx : x ≤ 1000000000000000000) (hn : n ≤ 999999999) (hc : w.cell? a = some (.int .i64 x)) (hz : w.frozen? a = false) :
    Calls Tryz.prog 320 #[.int .i64 n, .int .u8 b, .pointer (some a)] w fun e w' => e = .returned (.tuple #[]) ∧ w' = w.setCell a (.int .i64 ((x + n : Nat) : Int)) := by
  go_enter Tryz.func320, Tryz.ntmps320
  go_wp2_with fail
  refine (pressAdd_any x n _ hx hn).mono ?_
  rintro e w' ⟨rfl, rfl⟩
  go_wp2
  go_end0
  exact ⟨rfl, rfl⟩

theorem read_prefix {s : List UInt8} {d tl : List (Nat × UInt8)} {n : Nat} {b : UInt8} (h : (readL s).1 = d ++ (n, b) :: tl) (hs : s.length ≤ 1000000000) : sizeL d ≤ 1000000000000000000 ∧ n ≤ 999999999 ∧ sizeL d + n ≤ sizeL (readL s).1 := by
  have h1 := read_bound s
  have h2 := (read_few s.length s (Nat.le_refl _)).2 (n, b) (by rw [h]; simp)
  have h3 : sizeL (readL s).1 = sizeL d + (n + sizeL tl) := by rw [h, sizeL_app]; rfl
  simp only at h2
  omega

set_option maxRecDepth 100000 in
theorem size_any (p : Nat → Addr) (s : List UInt8) (w : World) (hs : s.length ≤ 1000000000) (hE : Env p w) :
    Calls Tryz.prog 306 #[.string ⟨s.toArray⟩] w fun e w' => ∃ v, e = .returned (.tuple #[.int .i64 (sizeL (runsS s)), v]) ∧ ErrAt p w' v (placeE (readL s).2).1 (placeE (readL s).2).2 ∧ Below w.heap.size w w' := by
  have eg : ∀ args w, (callFunc 320 args).run Tryz.prog w = .ok (.enter 320 args) w := enters_of Tryz.func320 (by kernel_rfl) rfl
  have hmf : ∀ (fn : Fn) (first cap : Array Value) (w : World), (Instr.makeFunc fn first cap).run Tryz.prog w = .ok (.func fn first cap) w := fun _ _ _ _ => rfl
  have HE := Lib.hid hE
  clear hE
  go_enter Tryz.func306, Tryz.ntmps306
  go_wp2_with fail
  refine (eachPressed_any p s 320 #[.pointer (some ⟨w.heap.size, 0, none⟩)] eg (fun d w' => w'.heap[w.heap.size]? = some (.cells #[.int .i64 (sizeL d : Int)] 3 (0, 0)) ∧ Below w.heap.size w w') _ hs ⟨heap_new w _, (Below.refl _ _).alloc (Nat.le_refl _) _⟩ (fun d w' h => HE.out.below h.2) ?_).mono ?_
  · rintro d n b tl W hp ⟨hk, hb⟩
    obtain ⟨h1, h2, h3⟩ := read_prefix hp hs
    refine (sizeHand_any (sizeL d) n b.toNat ⟨w.heap.size, 0, none⟩ W h1 h2 (cell_of_one hk) (free_of_one hk)).mono ?_
    rintro e W' ⟨rfl, rfl⟩
    refine ⟨rfl, ?_, hb.setCell (Nat.le_refl _) _⟩
    rw [sizeL_snoc]
    exact one_setCell hk
  rintro e w1 ⟨v, w0, rfl, ⟨hk, hb0⟩, hb1, hv⟩
  have hk1 := (hb1.block w.heap.size (Array.getElem?_eq_some_iff.1 hk).1).trans hk
  have HB := Lib.hid (hb0.trans (hb1.mono hb0.size))
  clear hb0 hb1 hk
  cases hr : (readL s).2 with
  | none =>
    have HR := Lib.hid (runsS_none hr)
    have HX := Lib.hid hr
    rw [hr] at hv
    obtain rfl := hv.isNil
    have hc := cell_of_one hk1
    clear hr hk1 hv
    go_wp2
    go_ret2
    exact ⟨_, by rw [HR.out]; rfl, by rw [HX.out]; exact ErrAt.fine p _, HB.out⟩
  | some k =>
    have HR := Lib.hid (runsS_some hr)
    have HX := Lib.hid hr
    rw [hr] at hv
    obtain ⟨T, u, rfl⟩ := hv.some (by simp [placeE])
    have HV := Lib.hid hv
    clear hr hk1 hv
    go_wp2
    go_ret2
    exact ⟨_, by rw [HR.out]; rfl, by rw [HX.out]; exact HV.out, HB.out⟩
end Go.Proofs.YtmcfkoenpikldaaGreatDoor
