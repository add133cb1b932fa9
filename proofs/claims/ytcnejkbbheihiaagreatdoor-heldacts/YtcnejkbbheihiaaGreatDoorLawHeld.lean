/-
  The closed fact of the laws on what is held, and holdings that are too long: over whatever the program's is (HeldProg), and this seat's translation.
-/
import Derived.Test.YtcnejkbbheihiaaGreatDoorHeldProg
import Derived.Test.YtcnejkbbheihiaaGreatDoorHeldClosed
import Derived.Test.YtcnejkbbheihiaaGreatDoorCodedCodedV
import Derived.Deep.RegionHeld3
namespace Go.Proofs.YtcnejkbbheihiaaGreatDoor
open Go.RowKit Go.Shelf

set_option maxRecDepth 100000 in
set_option maxHeartbeats 1000000 in
theorem longHoldings_any (l : List Hd) (a : Option Addr) (ca : Nat) (w : World) (h : CameH w a l) :
    Calls Tryz.prog 5 #[.slice a l.length ca] w fun e w' => e = .returned (.bool (longH l)) ∧ w' = w := by
  have HL := Lib.hid h
  have hlm := h.len
  unfold maxLen at hlm
  clear h
  go_enter Tryz.func5, Tryz.ntmps5
  by_cases hmany : 60 < l.length
  · have HF : Hid (longH l = true) := by show longH l = true; unfold longH; rw [decide_eq_true hmany]; rfl
    have hm' : (l.length : Int) > 60 := by omega
    clear hmany
    go_wp2
    go_ret
    exact ⟨by rw [HF.out]; rfl, by trivial⟩
  · have HN : Hid (longH l = l.any fun h => decide (longL h.l ≠ 0)) := by show longH l = _; unfold longH; rw [decide_eq_false hmany]; rfl
    have hm' : ¬ (l.length : Int) > 60 := by omega
    clear hmany
    go_wp2_with fail
    go_loopw [3] (fun i wr => ∃ q : Nat, q ≤ l.length ∧ i = .int .i64 q ∧ ((l.take q).any fun h => decide (longL h.l ≠ 0)) = false ∧ wr = w) (fun i _ => l.length - (intOf i).toNat)
    case atStart => exact ⟨0, by omega, rfl, by simp, rfl⟩
    case round =>
      obtain ⟨q, hq, rfl, hno, rfl⟩ := hrel
      have HNO := Lib.hid hno
      clear hno
      by_cases hlt : q < l.length
      · have hlt' : (q : Int) < (l.length : Int) := by omega
        obtain ⟨b, o, hb, k0, k1, k2⟩ := HL.out.lies.at hlt
        have HC := Lib.hid (HL.out.each _ (List.getElem_mem hlt))
        subst hb
        cases hlg : longL l[q].l with
        | zero =>
          have HF : Hid (((l.take (q + 1)).any fun h => decide (longL h.l ≠ 0)) = false) := by
            show List.any _ _ = false
            rw [List.take_succ_eq_append_getElem hlt, List.any_append, HNO.out]
            simp [hlg]
          have HG : Hid ((longL l[q].l : Int) = 0) := by show (longL l[q].l : Int) = 0; omega
          clear hlg
          generalize l[q] = x at k0 k1 k2 HC HG
          go_wp2_with fail
          refine (long_is HC.out 0 HG.out).mono ?_
          rintro e w2 ⟨rfl, hw2⟩
          obtain rfl : wr = w2 := hw2.symm
          go_wp2
          go_roundw
          case rel => exact ⟨q + 1, by omega, by go_num, HF.out, by trivial⟩
          case measure => simp [intOf]; omega
        | succ j =>
          have HF : Hid (longH l = true) := by
            show longH l = true
            rw [HN.out]
            exact List.any_eq_true.2 ⟨l[q], List.getElem_mem hlt, by simp [hlg]⟩
          have HG : Hid ((longL l[q].l : Int) = 1) := (longL_or l[q].l).resolve_left (by omega)
          clear hlg
          generalize l[q] = x at k0 k1 k2 HC HG
          go_wp2_with fail
          refine (long_is HC.out 1 HG.out).mono ?_
          rintro e w2 ⟨rfl, hw2⟩
          obtain rfl : wr = w2 := hw2.symm
          go_wp2
          go_ret
          exact ⟨by rw [HF.out]; rfl, by trivial⟩
      · have hql : q = l.length := by omega
        have HF : Hid (longH l = false) := by
          show longH l = false
          have := HNO.out
          rw [hql, List.take_length] at this
          rw [HN.out, this]
        clear hql
        go_wp2
        go_ret
        exact ⟨by rw [HF.out]; rfl, by trivial⟩

theorem heldA_lies (w : World) (T : TypeId) (x : List UInt8) : LiesAt (w.alloc (.cells #[.string ⟨x.toArray⟩, .bool false, .string ⟨#[]⟩] T)) (some ⟨w.heap.size, 0, none⟩) [⟨x, false, []⟩] := fun _ => by
  have e := heap_new w (.cells #[.string ⟨x.toArray⟩, .bool false, .string ⟨#[]⟩] T)
  generalize w.alloc (.cells #[.string ⟨x.toArray⟩, .bool false, .string ⟨#[]⟩] T) = V at e ⊢
  refine ⟨_, _, rfl, fun k hk => ?_⟩
  obtain rfl : k = 0 := by simp at hk; omega
  exact ⟨by simp [World.cell?, e], by simp [World.cell?, e], by simp [World.cell?, e]⟩

set_option maxRecDepth 100000 in
set_option maxHeartbeats 4000000 in
theorem holds_any {p : Nat → Addr} {At : HeldIs} (P : HeldProg p At) (w : World) (hE : HEnv p w) : Calls Tryz.prog 4 #[] w fun e w' => e = .returned (.bool true) ∧ Below w.heap.size w w' := by
  have HE : Hid (∀ {V}, Below w.heap.size w V → HEnv p V) := fun h => hE.below h
  have K1 := Lib.hid (OkH.zero 1)
  have K2 := Lib.hid (held_first ▸ (OkH.zero 1).put [heldA])
  have K3 := Lib.hid (held_second ▸ K2.out.put [heldB])
  have hsm : ∀ x, Small [(⟨[x], false, []⟩ : F)] := fun x => ⟨by simp, by simp, by simp⟩
  have HS := Lib.hid hsm
  clear hE hsm
  go_enter Tryz.func4, Tryz.ntmps4
  go_wp2_with fail
  refine (P.new _ 1).mono ?_
  rintro e w1 ⟨nb, S1, R1, rfl, hn1, hs1, hb1⟩
  have I1 : Hid (InH At w w1 nb S1 R1 (Hs.none 1)) := ⟨hb1, hn1, hs1, K1.out⟩
  clear hn1 hs1 hb1
  go_wp2_with fail
  have hz1 : ∀ b, S1 b → b < w1.heap.size := fun b hb => P.lt I1.out.held b (.inl hb)
  have J1 := Lib.hid (I1.out.quiet P ((Below.refl _ _).alloc (Nat.le_refl _) (.cells #[.string ⟨#[97]⟩, .bool false, .string ⟨#[]⟩] 60)))
  refine (P.put _ nb S1 R1 (Hs.none 1) [heldA] (some ⟨w1.heap.size, 0, none⟩) 1 J1.out.held (HE.out J1.out.below) J1.out.ok (heldA_lies w1 _ [97]) (Nat.le_refl _) (fun e => by cases e) (HS.out 97) (fun _ b o t e hS => by cases e; have := hz1 _ hS; omega)).mono ?_
  rintro e w2 ⟨⟨v, rfl, hv⟩, S2, R2, l2⟩
  rw [held_first] at hv l2
  rw [held_first]
  obtain rfl := hv.isNil
  have I2 := Lib.hid (J1.out.step l2 K2.out)
  clear hv l2 I1 J1 hz1
  go_wp2_with fail
  have hz2 : ∀ b, S2 b → b < w2.heap.size := fun b hb => P.lt I2.out.held b (.inl hb)
  have J2 := Lib.hid (I2.out.quiet P ((Below.refl _ _).alloc (Nat.le_refl _) (.cells #[.string ⟨#[98]⟩, .bool false, .string ⟨#[]⟩] 60)))
  refine (P.put _ nb S2 R2 ⟨1, [⟨sumT [heldA], [heldA]⟩]⟩ [heldB] (some ⟨w2.heap.size, 0, none⟩) 1 J2.out.held (HE.out J2.out.below) J2.out.ok (heldA_lies w2 _ [98]) (Nat.le_refl _) (fun e => by cases e) (HS.out 98) (fun _ b o t e hS => by cases e; have := hz2 _ hS; omega)).mono ?_
  rintro e w3 ⟨⟨v, rfl, hv⟩, S3, R3, l3⟩
  rw [held_second] at hv l3
  rw [held_second]
  obtain rfl := hv.isNil
  have I3 := Lib.hid (J2.out.step l3 K3.out)
  clear hv l3 I2 J2 hz2
  go_wp2_with fail
  refine (P.get _ nb S3 R3 ⟨1, [⟨sumT [heldB], [heldB]⟩]⟩ (sumT [heldA] : Int) I3.out.held (HE.out I3.out.below) I3.out.ok (sumT_fit _)).mono ?_
  rintro e w4 ⟨⟨a4, c4, rfl, n4⟩, hb4⟩
  have I4 := Lib.hid (I3.out.quiet P hb4)
  rw [held_gone]
  clear n4 hb4 I3
  go_wp2_with fail
  refine (P.get _ nb S3 R3 ⟨1, [⟨sumT [heldB], [heldB]⟩]⟩ (sumT [heldB] : Int) I4.out.held (HE.out I4.out.below) I4.out.ok (sumT_fit _)).mono ?_
  rintro e w5 ⟨⟨a5, c5, rfl, n5⟩, hb5⟩
  have I5 := Lib.hid (I4.out.quiet P hb5)
  rw [held_there] at n5
  rw [held_there, errV_zero, errV_some p (by decide : (6 : Nat) ≠ 0)]
  obtain ⟨b, o, rfl, k0, k1, k2⟩ := n5.lies.at (k := 0) (by simp)
  have hc5 := n5.cap
  have k0' : w5.cell? ⟨b, o, none⟩ = some (.string ⟨#[98]⟩) := by simpa using k0
  clear n5 hb5 I4 k0 k1 k2
  go_wp2_with fail
  refine (coded_errV p 6 _ (HE.out I5.out.below).env (by decide)).mono ?_
  rintro e w6 ⟨rfl, hb6⟩
  have HB6 := Lib.hid (I5.out.below.trans (hb6.mono I5.out.below.size))
  have m0 : w6.cell? ⟨b, o, none⟩ = some (.string ⟨#[98]⟩) := (hb6.cell (p := ⟨b, o, none⟩) (block_lt_of_cell k0')).trans k0'
  clear hb6 k0'
  go_wp2
  go_ret
  exact ⟨rfl, HB6.out⟩
end Go.Proofs.YtcnejkbbheihiaaGreatDoor
