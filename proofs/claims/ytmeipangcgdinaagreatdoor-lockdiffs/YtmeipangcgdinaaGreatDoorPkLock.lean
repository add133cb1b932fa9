/-
  Package lock: checkNext, Check, Text: contracts, over this seat's translation.
-/
import Derived.Test.YtmeipangcgdinaaGreatDoorLockPure
import Derived.Test.YtmeipangcgdinaaGreatDoorWtRowWtInsertWtInsertGrowWtDelete
import Derived.Test.YtmeipangcgdinaaGreatDoorPkWantPkWantText
import Derived.Test.YtmeipangcgdinaaGreatDoorSlotsErrAt
import Derived.StillTailTactics
namespace Go.Proofs.YtmeipangcgdinaaGreatDoor
open Go.RowKit Go.Shelf

/-- Wants whose texts are not too long. -/
def SmallW (l : List Wt) : Prop := l.length ≤ 100000 ∧ ∀ x ∈ l, x.n.length ≤ 90000 ∧ x.u.length ≤ 90000

set_option maxRecDepth 100000 in
set_option maxHeartbeats 4000000 in
theorem lockNext_any (p : Nat → Addr) (pre : List Wt) (b o ca : Nat) (n u k : List UInt8) (s m : Int) (w : World) (hE : WEnv p w) (hl : WLies w (some ⟨b, o, none⟩) pre) (hn : pre.length ≤ 100000) (hx : n.length ≤ 90000) (hu : u.length ≤ 90000) :
    Calls Tryz.prog 16 #[.slice (some ⟨b, o, none⟩) pre.length ca, wv ⟨n, u, k, s, m⟩] w fun e w' => e = .returned (errV p (nextCode pre ⟨n, u, k, s, m⟩)) ∧ Below w.heap.size w w' := by
  have HE := Lib.hid hE
  have HE0 : Hid (WEnv p (w.alloc (wo n u k s m))) := hE.below ((Below.refl _ _).alloc (Nat.le_refl _) _)
  have HL := Lib.hid hl
  clear hE hl
  cases hc : wantCode ⟨n, u, k, s, m⟩ with
  | succ j =>
    have HF := Lib.hid (next_want (pre := pre) hc)
    have HC := Lib.hid hc
    clear hc
    go_enter Tryz.func16, Tryz.ntmps16
    go_wp2_with fail
    refine (wantCheck_is p n u k s m _ _ HE0.out hx hu HC.out).mono ?_
    rintro e w1 ⟨rfl, hb1⟩
    obtain ⟨hw1, hB1⟩ := want_box hb1
    have HB1 := Lib.hid hB1
    rw [errV_some p (Nat.succ_ne_zero j)]
    clear hb1 hw1 hB1
    go_wp2
    go_ret
    exact ⟨by rw [HF.out]; rfl, HB1.out⟩
  | zero =>
    have HC := Lib.hid hc
    by_cases hpos : 0 < pre.length
    · have hpos' : (0 : Int) < (pre.length : Int) := by omega
      have hsub : ((pre.length : Int) - 1) = ((pre.length - 1 : Nat) : Int) := by omega
      have hlast : ∃ y, pre[pre.length - 1]? = some y := ⟨_, List.getElem?_eq_getElem (by omega)⟩
      cases ho : less (pre[pre.length - 1]'(by omega)).n n with
      | false =>
        have HF := Lib.hid (next_order (x := ⟨n, u, k, s, m⟩) hc hpos ho)
        have hle : (Op.bytesLess n (pre[pre.length - 1]'(by omega)).n || n == (pre[pre.length - 1]'(by omega)).n) = true := by
          cases h : Op.bytesLess n (pre[pre.length - 1]'(by omega)).n with
          | true => rfl
          | false => simp [less_total h ho]
        clear hc ho hlast
        go_enter Tryz.func16, Tryz.ntmps16
        go_wp2_with fail
        refine (wantCheck_is p n u k s m _ _ HE0.out hx hu HC.out).mono ?_
        rintro e w1 ⟨rfl, hb1⟩
        obtain ⟨hw1, hB1⟩ := want_box hb1
        rw [errV_zero]
        have HB1 := Lib.hid hB1
        obtain ⟨g0, g1, g2, g3, g4⟩ := hw1
        have s8 := (HE.out.below hB1).env.s8
        obtain ⟨b', o', e', c0, c1, c2, c3, c4⟩ := (HL.out.below hB1).at (k := pre.length - 1) (by omega)
        cases e'
        clear hb1 hB1
        generalize (pre[pre.length - 1]'(by omega)) = g at c0 c1 c2 c3 c4 hle
        go_wp2_with fail
        go_quiet (fail)
        go_wp2
        go_ret
        exact ⟨by rw [HF.out]; rfl, below_drewN HB1.out _⟩
      | true =>
        have HF := Lib.hid (next_good (x := ⟨n, u, k, s, m⟩) hc hpos ho)
        have hle : (Op.bytesLess n (pre[pre.length - 1]'(by omega)).n || n == (pre[pre.length - 1]'(by omega)).n) = false := by
          have h1 := less_asymm ho
          have h2 := less_ne ho
          simp only [less] at h1
          simp [h1, Ne.symm h2]
        clear hc ho hlast
        go_enter Tryz.func16, Tryz.ntmps16
        go_wp2_with fail
        refine (wantCheck_is p n u k s m _ _ HE0.out hx hu HC.out).mono ?_
        rintro e w1 ⟨rfl, hb1⟩
        obtain ⟨hw1, hB1⟩ := want_box hb1
        rw [errV_zero]
        have HB1 := Lib.hid hB1
        obtain ⟨g0, g1, g2, g3, g4⟩ := hw1
        obtain ⟨b', o', e', c0, c1, c2, c3, c4⟩ := (HL.out.below hB1).at (k := pre.length - 1) (by omega)
        cases e'
        clear hb1 hB1
        generalize (pre[pre.length - 1]'(by omega)) = g at c0 c1 c2 c3 c4 hle
        go_wp2_with fail
        go_quiet (fail)
        go_wp2
        go_ret
        exact ⟨by rw [HF.out]; rfl, below_drewN HB1.out _⟩
    · have hz : pre = [] := List.length_eq_zero_iff.1 (by omega)
      subst hz
      have HF := Lib.hid (next_first hc)
      clear hc
      go_enter Tryz.func16, Tryz.ntmps16
      go_wp2_with fail
      refine (wantCheck_is p n u k s m _ _ HE0.out hx hu HC.out).mono ?_
      rintro e w1 ⟨rfl, hb1⟩
      obtain ⟨hw1, hB1⟩ := want_box hb1
      rw [errV_zero]
      have HB1 := Lib.hid hB1
      obtain ⟨g0, g1, g2, g3, g4⟩ := hw1
      clear hb1 hB1
      go_wp2_with fail
      go_quiet (fail)
      go_wp2
      go_ret
      exact ⟨by rw [HF.out]; rfl, below_drewN HB1.out _⟩
theorem lockNext_is (p : Nat → Addr) (pre : List Wt) (b o q ca : Nat) (n u k : List UInt8) (s m : Int) (c : Nat) (w : World) (hq : pre.length = q) (hE : WEnv p w) (hl : WLies w (some ⟨b, o, none⟩) pre) (hn : pre.length ≤ 100000) (hx : n.length ≤ 90000) (hu : u.length ≤ 90000) (h : nextCode pre ⟨n, u, k, s, m⟩ = c) :
    Calls Tryz.prog 16 #[.slice (some ⟨b, o, none⟩) q ca, wv ⟨n, u, k, s, m⟩] w fun e w' => e = .returned (errV p c) ∧ Below w.heap.size w w' := by
  have := lockNext_any p pre b o ca n u k s m w hE hl hn hx hu
  rwa [h, hq] at this

set_option maxRecDepth 100000 in
set_option maxHeartbeats 4000000 in
theorem lockCheck_any (p : Nat → Addr) (l : List Wt) (a : Option Addr) (ca : Nat) (w : World) (hE : WEnv p w) (hl : WLies w a l) (hca : l.length ≤ ca) (hs : SmallW l) :
    Calls Tryz.prog 6 #[.slice a l.length ca] w fun e w' => (∃ v, e = .returned v ∧ ErrAt p w' v (lockFault l).1 (lockFault l).2) ∧ Below w.heap.size w w' := by
  have hfew := hs.1
  have HE := Lib.hid hE
  by_cases hlong : 20 < l.length
  · have HT := Lib.hid (lockFault_long hlong)
    have h20 : (20 : Int) < (l.length : Int) := by omega
    have s7 := hE.env.s7
    clear hl hE
    go_enter Tryz.func6, Tryz.ntmps6
    go_wp2
    go_ret
    exact ⟨⟨_, rfl, by rw [HT.out]; exact .inr (.inl ⟨7, rfl, by omega, rfl, rfl⟩)⟩, Below.refl _ _⟩
  · have h20 : ¬ (20 : Int) < (l.length : Int) := by omega
    have HL := Lib.hid hl
    have HS := Lib.hid hs
    clear hl hs hE
    go_enter Tryz.func6, Tryz.ntmps6
    go_wp2_with fail
    have hmx : Tryz.prog.follows .mixedOrders = true := by kernel_rfl
    go_loopw [12] (fun i wr => ∃ q : Nat, q ≤ l.length ∧ i = .int .i64 q ∧ (∀ j (h : j < l.length), j < q → nextCode (l.take j) l[j] = 0) ∧ Below w.heap.size w wr) (fun i _ => l.length - (intOf i).toNat)
    case atStart => exact ⟨0, by omega, rfl, fun _ _ h => by omega, Below.refl _ _⟩
    case round =>
      obtain ⟨q, hq, rfl, hz, hb⟩ := hrel
      have HB := Lib.hid hb
      have HZ := Lib.hid hz
      clear hb hz
      by_cases hlt : q < l.length
      · have hlt' : (q : Int) < (l.length : Int) := by omega
        obtain ⟨b, o, rfl, c0, c1, c2, c3, c4⟩ := (HL.out.below HB.out).at hlt
        obtain ⟨hpl, hul⟩ := HS.out.2 _ (List.getElem_mem hlt)
        have hq0 : (0 : Int) ≤ (q : Int) := by omega
        have hqc : (q : Int) ≤ (ca : Int) := by omega
        have HTK : Hid ((l.take q).length = q) := by show (l.take q).length = q; rw [List.length_take]; omega
        cases hc : nextCode (l.take q) l[q] with
        | succ k =>
          have HF : Hid (lockFault l = (k + 1, (q : Int))) := by
            have := lockFault_at (l := l) (by omega) hlt HZ.out (by rw [hc]; simp)
            rwa [hc] at this
          have HC := Lib.hid hc
          have hk13 : k < 13 := by have := next_le (l.take q) l[q]; omega
          clear hc
          generalize l[q] = f at c0 c1 c2 c3 c4 hpl hul HC
          obtain ⟨n, u, kk, s, m⟩ := f
          go_wp2_with fail
          obtain ⟨W, hW⟩ : ∃ W, W = wr.alloc (wo n u kk s m) := ⟨_, rfl⟩
          have hwn := WantAt.new wr n u kk s m
          have hBW : Below wr.heap.size wr (wr.alloc (wo n u kk s m)) := (Below.refl _ _).alloc (Nat.le_refl _) _
          rw [← hW] at hwn hBW
          obtain ⟨g0, g1, g2, g3, g4⟩ := hwn
          have hsz : W.heap.size = wr.heap.size + 1 := by rw [hW, World.size_alloc]
          rw [← hW]
          have HWB := Lib.hid hBW
          clear hBW hW
          go_still_tail 4, hmx
          go_wp2_with fail
          have hB0 : Below w.heap.size w W.drew := (HB.out.trans (HWB.out.mono HB.out.size)).drew
          refine (lockNext_is p (l.take q) b o q ca n u kk s m _ _ HTK.out (HE.out.below hB0) ((HL.out.below hB0).take q) (by rw [HTK.out]; omega) hpl hul HC.out).mono ?_
          rintro e w2 ⟨rfl, hb2⟩
          have HB2 := Lib.hid (hB0.trans (hb2.mono hB0.size))
          rw [errV_some p (Nat.succ_ne_zero k)]
          clear hb2 hB0
          go_wp2
          go_ret
          have hpc := pair_cells (w := w2) (x := .int .i64 q) (y := .iface 156 (.pointer (some (p k)))) (T := 46) (Below.refl _ _)
          exact ⟨⟨_, rfl, by rw [HF.out]; exact .inr (.inr ⟨k, _, _, rfl, hk13, rfl, hpc.1, hpc.2⟩)⟩, HB2.out.alloc HB2.out.size _⟩
        | zero =>
          have HN : Hid (∀ j (h : j < l.length), j < q + 1 → nextCode (l.take j) l[j] = 0) := by
            intro j hj hjq
            by_cases e : j = q
            · subst e; exact hc
            · exact HZ.out j hj (by omega)
          have HC := Lib.hid hc
          clear hc
          generalize l[q] = f at c0 c1 c2 c3 c4 hpl hul HC
          obtain ⟨n, u, kk, s, m⟩ := f
          go_wp2_with fail
          obtain ⟨W, hW⟩ : ∃ W, W = wr.alloc (wo n u kk s m) := ⟨_, rfl⟩
          have hwn := WantAt.new wr n u kk s m
          have hBW : Below wr.heap.size wr (wr.alloc (wo n u kk s m)) := (Below.refl _ _).alloc (Nat.le_refl _) _
          rw [← hW] at hwn hBW
          obtain ⟨g0, g1, g2, g3, g4⟩ := hwn
          have hsz : W.heap.size = wr.heap.size + 1 := by rw [hW, World.size_alloc]
          rw [← hW]
          have HWB := Lib.hid hBW
          clear hBW hW
          go_still_tail 4, hmx
          go_wp2_with fail
          have hB0 : Below w.heap.size w W.drew := (HB.out.trans (HWB.out.mono HB.out.size)).drew
          refine (lockNext_is p (l.take q) b o q ca n u kk s m _ _ HTK.out (HE.out.below hB0) ((HL.out.below hB0).take q) (by rw [HTK.out]; omega) hpl hul HC.out).mono ?_
          rintro e w2 ⟨rfl, hb2⟩
          have HB2 := Lib.hid (hB0.trans (hb2.mono hB0.size))
          rw [errV_zero]
          clear hb2 hB0 g0 g1 g2 g3 g4
          go_wp2
          go_roundw
          case rel => exact ⟨q + 1, by omega, by go_num, HN.out, HB2.out⟩
          case measure => simp [intOf]; omega
      · obtain rfl : q = l.length := by omega
        have HF := Lib.hid (lockFault_end (l := l) (by omega) (fun j hj => HZ.out j hj hj))
        clear HZ
        go_wp2
        go_ret
        exact ⟨⟨_, rfl, by rw [HF.out]; exact .inl ⟨rfl, rfl, rfl⟩⟩, HB.out⟩
end Go.Proofs.YtmeipangcgdinaaGreatDoor
