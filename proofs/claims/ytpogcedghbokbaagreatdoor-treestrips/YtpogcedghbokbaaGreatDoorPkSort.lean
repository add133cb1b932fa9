/-
  Package tree's Sort: over this seat's translation.
-/
import Derived.Test.YtpogcedghbokbaaGreatDoorPkCheck
import Derived.Test.YtpogcedghbokbaaGreatDoorTold
import Derived.Test.YtpogcedghbokbaaGreatDoorPkSortFn
namespace Go.Proofs.YtpogcedghbokbaaGreatDoor
open Go.RowKit Go.Shelf

theorem small_perm {s l : List F} (hp : s.Perm l) (h : Small l) : Small s :=
  ⟨by rw [hp.length_eq]; exact h.few, fun f hf => h.path f (hp.mem_iff.1 hf), fun f hf => h.text f (hp.mem_iff.1 hf)⟩

set_option maxRecDepth 100000 in
set_option maxHeartbeats 4000000 in
theorem sortTree_any (p : Nat → Addr) (l : List F) (a : Option Addr) (ca : Nat) (w : World) (hE : Env p w) (hl : LiesAt w a l) (hs : Small l) :
    Calls Tryz.prog 17 #[.slice a l.length ca] w fun e w' => Told p w' e (sortT l) ∧ Below w.heap.size w w' := by
  have hfew := hs.few
  have HE : Hid (Env p w) := hE
  have HL : Hid (LiesAt w a l) := hl
  have HS : Hid (Small l) := hs
  clear hE hl hs
  go_enter Tryz.func17, Tryz.ntmps17
  go_wp2_with fail
  refine (clone_any l a ca _ HL.out hfew).mono ?_
  rintro e w1 ⟨⟨v, rfl, hown⟩, hb1⟩
  have HB1 : Hid (Below w.heap.size w w1) := hb1
  have HOWN : Hid (w1.ownsRow w.heap.size 24 3 v l.length (lcells l)) := hown
  clear hb1 hown
  go_wp2_with fail
  refine (sortFunc_any l v w.heap.size w1 HOWN.out hfew).mono ?_
  rintro e w2 ⟨rfl, ⟨s, a', c', rfl, hperm, hweak, hlies, hcap⟩, hb2⟩
  have HB2 : Hid (Below w.heap.size w w2) := HB1.out.trans hb2
  have HP : Hid (s.Perm l) := hperm
  have HW : Hid (Weak s) := hweak
  have HLS : Hid (LiesAt w2 a' s) := hlies
  have HSS : Hid (Small s) := small_perm hperm HS.out
  have hlen : l.length = s.length := hperm.length_eq.symm
  rw [hlen] at hcap hfew ⊢
  clear hb2 hperm hweak hlies HB1 HOWN hlen
  go_wp2_with fail
  go_loopw [5] (fun i wr => ∃ q : Nat, q ≤ s.length + 1 ∧ 1 ≤ q ∧ i = .int .i64 q ∧ (∀ j (hj : j + 1 < s.length), j + 1 < q → s[j + 1].p ≠ s[j].p) ∧ Below w2.heap.size w2 wr) (fun i _ => s.length + 1 - (intOf i).toNat)
  case atStart => exact ⟨1, by omega, by omega, rfl, fun _ _ h => by omega, Below.refl _ _⟩
  case round =>
    obtain ⟨q, hq, hq1, rfl, hz, hb⟩ := hrel
    have HB : Hid (Below w2.heap.size w2 wr) := hb
    have HBW : Hid (Below w.heap.size w wr) := HB2.out.trans (hb.mono HB2.out.size)
    have HZ : Hid (∀ j (hj : j + 1 < s.length), j + 1 < q → s[j + 1].p ≠ s[j].p) := hz
    clear hb hz
    by_cases hlt : q < s.length
    · obtain ⟨r, rfl⟩ : ∃ r, q = r + 1 := ⟨q - 1, by omega⟩
      obtain ⟨b, o, rfl, c0, c1, c2⟩ := (HLS.out.below HB.out).at hlt
      obtain ⟨b', o', e', d0, d1, d2⟩ := (HLS.out.below HB.out).at (k := r) (by omega)
      cases e'
      have hlt' : (r : Int) + 1 < (s.length : Int) := by omega
      by_cases he : s[r + 1].p = (s[r]'(by omega)).p
      · have HT : Hid (sortT l = ([], 7, -1)) := sortT_twice HP.out (not_nodup_of_step (by omega) he)
        have he' : (s[r + 1].p == (s[r]'(by omega)).p) = true := by simp [he]
        have s6 := (HE.out.below HBW.out).s6
        clear he
        generalize s[r + 1] = f at c0 c1 c2 he'
        generalize (s[r]'(by omega)) = g at d0 d1 d2 he'
        go_wp2_with fail
        go_quiet (fail)
        go_wp2_with fail
        go_quiet (fail)
        go_wp2
        go_ret2
        exact ⟨by rw [HT.out]; exact told_none (.inr (.inl ⟨6, rfl, by omega, rfl, rfl⟩)), below_drewN (below_drewN HBW.out _) _⟩
      · have HN : Hid (∀ j (hj : j + 1 < s.length), j + 1 < r + 1 + 1 → s[j + 1].p ≠ s[j].p) := by
          intro j hj hjr
          by_cases e : j = r
          · subst e; exact he
          · exact HZ.out j hj (by omega)
        have he' : (s[r + 1].p == (s[r]'(by omega)).p) = false := by simp [he]
        clear he
        generalize s[r + 1] = f at c0 c1 c2 he'
        generalize (s[r]'(by omega)) = g at d0 d1 d2 he'
        go_wp2_with fail
        go_quiet (fail)
        go_wp2
        go_roundw
        case rel => exact ⟨r + 1 + 1, by omega, by omega, by go_num, HN.out, below_drewN HB.out _⟩
        case measure => simp [intOf]; omega
    · have hnd : (s.map (·.p)).Nodup := nodup_of_step HW.out fun j hj => HZ.out j hj (by omega)
      have hlt' : ¬ (q : Int) < (s.length : Int) := by omega
      by_cases hc : (treeFault s).1 = 0
      · have HT : Hid (sortT l = (s, 0, -1)) := sortT_ok HP.out HW.out hnd hc
        have HF : Hid (treeFault s = (0, -1)) := treeFault_zero hc
        clear hnd hc
        go_wp2_with fail
        refine (checkTree_any p s a' c' _ (HE.out.below HBW.out) (HLS.out.below HB.out) hcap HSS.out).mono ?_
        rintro e w3 ⟨⟨v, rfl, hv⟩, hb3⟩
        rw [HF.out] at hv
        have := hv.isNil
        subst this
        have HB3 : Hid (Below wr.heap.size wr w3) := hb3
        clear hv hb3
        go_wp2
        go_ret2
        exact ⟨by rw [HT.out]; exact ⟨a', c', _, rfl, (HLS.out.below HB.out).below HB3.out, hcap, ErrAt.fine p w3⟩, HBW.out.trans (HB3.out.mono HBW.out.size)⟩
      · have HT : Hid (sortT l = ([], treeFault s)) := sortT_bad HP.out HW.out hnd hc
        have HC : Hid ((treeFault s).1 ≠ 0) := hc
        clear hnd hc
        go_wp2_with fail
        refine (checkTree_any p s a' c' _ (HE.out.below HBW.out) (HLS.out.below HB.out) hcap HSS.out).mono ?_
        rintro e w3 ⟨⟨v, rfl, hv⟩, hb3⟩
        obtain ⟨T, u, rfl⟩ := hv.some HC.out
        have HV : Hid (ErrAt p w3 (.iface T u) (treeFault s).1 (treeFault s).2) := hv
        have HB3 : Hid (Below wr.heap.size wr w3) := hb3
        clear hv hb3
        go_wp2
        go_ret2
        exact ⟨by rw [HT.out]; exact told_none HV.out, HBW.out.trans (HB3.out.mono HBW.out.size)⟩
end Go.Proofs.YtpogcedghbokbaaGreatDoor
