/-
  Package tree's Drop: over this seat's translation.
-/
import Derived.Test.YtpogcedghbokbaaGreatDoorPkDelete
namespace Go.Proofs.YtpogcedghbokbaaGreatDoor
open Go.RowKit Go.Shelf

theorem owns_some {w : World} {base : Nat} {v : Value} {l : List F} (h : w.ownsRow base 24 3 v l.length (lcells l)) (hne : 0 < l.length) : ∃ g cap, v = .slice (some ⟨g, 0, none⟩) l.length cap ∧ l.length ≤ cap := by
  rcases h.2 with ⟨_, h0⟩ | ⟨g, cap, cur, h', _, _, hn, _⟩
  · omega
  · exact ⟨g, cap, h', hn⟩

set_option maxRecDepth 100000 in
set_option maxHeartbeats 4000000 in
theorem dropTree_any (p : Nat → Addr) (l : List F) (a : Option Addr) (ca : Nat) (q : List UInt8) (w : World) (hE : Env p w) (hl : LiesAt w a l) (hca : l.length ≤ ca) (hs : Small l) :
    Calls Tryz.prog 13 #[.slice a l.length ca, .string ⟨q.toArray⟩] w fun e w' => Told p w' e (dropT l q) ∧ Below w.heap.size w w' := by
  have hfew := hs.few
  have HE : Hid (Env p w) := hE
  have HL : Hid (LiesAt w a l) := hl
  have HS : Hid (Small l) := hs
  clear hE hl hs
  by_cases hc : (treeFault l).1 = 0
  · have HF : Hid (treeFault l = (0, -1)) := treeFault_zero hc
    have HR : Hid (Rise l) := tree_rise hc
    go_enter Tryz.func13, Tryz.ntmps13
    go_wp2_with fail
    refine (checkTree_any p l a ca _ HE.out HL.out hca HS.out).mono ?_
    rintro e w0 ⟨⟨v, rfl, hv⟩, hb0⟩
    rw [HF.out] at hv
    have := hv.isNil
    subst this
    have HB0 : Hid (Below w.heap.size w w0) := hb0
    clear hv hb0
    go_wp2_with fail
    refine (find_any l a ca q _ (HL.out.below HB0.out) hfew HR.out).mono ?_
    rintro e w1 ⟨⟨j, rfl, hp⟩, hb1⟩
    have HB1 : Hid (Below w.heap.size w w1) := HB0.out.trans (hb1.mono HB0.out.size)
    have HP : Hid (Place l q j) := hp
    clear hb1 hp
    cases ht : there l q j with
    | false =>
      have HT : Hid (dropT l q = ([], 6, -1)) := drop_absent hc HR.out HP.out ht
      have s5 := (HE.out.below HB1.out).s5
      clear ht hc
      go_wp2_with fail
      go_quiet (fail)
      go_wp2
      go_ret2
      exact ⟨by rw [HT.out]; exact told_none (.inr (.inl ⟨5, rfl, by omega, rfl, rfl⟩)), below_drewN HB1.out _⟩
    | true =>
      have HT : Hid (dropT l q = (l.take j ++ l.drop (j + 1), 0, -1)) := drop_there hc HR.out HP.out ht
      obtain ⟨hj, _⟩ := there_true ht
      clear ht hc
      go_wp2_with fail
      refine (clone_any l a ca _ (HL.out.below HB1.out) hfew).mono ?_
      rintro e w2 ⟨⟨v, rfl, hown⟩, hb2⟩
      obtain ⟨g, cap, rfl, hcap⟩ := owns_some hown (by omega)
      have HOWN : Hid (w2.ownsRow w.heap.size 24 3 (.slice (some ⟨g, 0, none⟩) l.length cap) l.length (lcells l)) := hown.mono HB1.out.size
      have HB2 : Hid (Below w.heap.size w w2) := HB1.out.trans (hb2.mono HB1.out.size)
      clear hown hb2
      go_wp2_with fail
      refine (delete_any l g cap j w.heap.size w2 HOWN.out hj hfew).mono ?_
      rintro e w3 ⟨⟨rfl, hlies⟩, hb3⟩
      have HLI : Hid (LiesAt w3 (some ⟨g, 0, none⟩) (l.take j ++ l.drop (j + 1))) := hlies
      have HLEN : Hid ((l.take j ++ l.drop (j + 1)).length = l.length - 1) := by
        show _ = _
        rw [List.length_append, List.length_take, List.length_drop]; omega
      clear hlies
      go_wp2
      go_ret2
      refine ⟨?_, HB2.out.trans hb3⟩
      rw [HT.out]
      refine ⟨some ⟨g, 0, none⟩, cap, _, ?_, HLI.out, ?_, ErrAt.fine p w3⟩
      · show _ = Ending.returned (.tuple #[.slice (some ⟨g, 0, none⟩) (l.take j ++ l.drop (j + 1)).length cap, _])
        rw [HLEN.out]; rfl
      · show (l.take j ++ l.drop (j + 1)).length ≤ cap
        rw [HLEN.out]; omega
  · have HT : Hid (dropT l q = ([], treeFault l)) := by show dropT l q = _; simp [dropT, hc]
    have HC : Hid ((treeFault l).1 ≠ 0) := hc
    clear hc
    go_enter Tryz.func13, Tryz.ntmps13
    go_wp2_with fail
    refine (checkTree_any p l a ca _ HE.out HL.out hca HS.out).mono ?_
    rintro e w1 ⟨⟨v, rfl, hv⟩, hb1⟩
    obtain ⟨T, u, rfl⟩ := hv.some HC.out
    have HV : Hid (ErrAt p w1 (.iface T u) (treeFault l).1 (treeFault l).2) := hv
    clear hv
    go_wp2
    go_ret2
    exact ⟨by rw [HT.out]; exact told_none HV.out, hb1⟩
end Go.Proofs.YtpogcedghbokbaaGreatDoor
