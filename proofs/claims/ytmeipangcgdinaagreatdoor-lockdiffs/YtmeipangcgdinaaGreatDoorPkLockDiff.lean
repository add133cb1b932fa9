/-
  Package lock: Diff: a contract, over this seat's translation.
-/
import Derived.Test.YtmeipangcgdinaaGreatDoorDiffPure
import Derived.Test.YtmeipangcgdinaaGreatDoorRangeBoxMapRange
import Derived.Test.YtmeipangcgdinaaGreatDoorPkLockNamesPkLockSort
namespace Go.Proofs.YtmeipangcgdinaaGreatDoor
open Go.RowKit Go.Shelf Go.Maps

set_option maxRecDepth 100000 in
set_option maxHeartbeats 8000000 in
theorem lockDiff_any (p : Nat → Addr) (l m : List Wt) (a b : Option Addr) (ca cb : Nat) (w : World) (hE : WEnv p w) (hl : WLies w a l) (hm : WLies w b m) (hca : l.length ≤ ca) (hcb : m.length ≤ cb) (hkl : Lock l) (hkm : Lock m) (hsl : SmallW l) (hsm : SmallW m) :
    Calls Tryz.prog 10 #[.slice a l.length ca, .slice b m.length cb] w fun e w' => (∃ s sa c, e = .returned (.tuple #[.slice sa s.length c, .nilIface]) ∧ IsDiff l m s ∧ TextsAt w' sa s ∧ s.length ≤ c ∧ s.length ≤ 40) ∧ Below w.heap.size w w' := by
  have HE := Lib.hid hE
  have HL := Lib.hid hl
  have HM := Lib.hid hm
  have HKL := Lib.hid hkl
  have HKM := Lib.hid hkm
  have HSL := Lib.hid hsl
  have HSM := Lib.hid hsm
  clear hE hl hm hkl hkm hsl hsm
  obtain ⟨i0, hi, hz0, hz1, hz2⟩ := info_parts Tryz.info9
  go_enter Tryz.func10, Tryz.ntmps10
  go_wp2_with fail
  refine (lockCheck_any p l a ca _ HE.out HL.out hca HSL.out).mono ?_
  rintro e w1 ⟨⟨v, rfl, hv⟩, hb1⟩
  rw [lock_zero HKL.out] at hv
  have := hv.isNil
  subst this
  have HB1 := Lib.hid hb1
  clear hv hb1
  go_wp2_with fail
  refine (lockCheck_any p m b cb _ (HE.out.below HB1.out) (HM.out.below HB1.out) hcb HSM.out).mono ?_
  rintro e w2 ⟨⟨v, rfl, hv⟩, hb2⟩
  rw [lock_zero HKM.out] at hv
  have := hv.isNil
  subst this
  have HB2 := Lib.hid (HB1.out.trans (hb2.mono HB1.out.size))
  clear hv hb2 HB1
  go_wp2_with fail
  refine (byNames_any l m a b ca cb _ (HL.out.below HB2.out) (HM.out.below HB2.out) HKL.out HKM.out (fun x hx => (HSL.out.2 x hx).1) (fun x hx => (HSM.out.2 x hx).1)).mono ?_
  rintro e w3 ⟨g, n, rfl, hg, hmap, hn40, hb3⟩
  have HMAP := Lib.hid hmap
  have HB3 := Lib.hid (HB2.out.trans (hb3.mono HB2.out.size))
  have HRB : Hid (w.heap.size ≤ w3.heap.size) := HB3.out.size
  have HG : Hid (w.heap.size ≤ g) := Nat.le_trans HB2.out.size hg
  have HGL := Lib.hid hmap.lt
  clear hmap hb3 hg HB2
  go_wp2_with (at_range; go_loud (refine wpList_range_at rfl _ 60 rfl 9 63 Tryz.underlying9 Tryz.underlying60 g n _ rfl HMAP.out ?_; intro w4 hr4 hg4 hs4))
  go_frame
  have HS4 := Lib.hid hs4
  clear hs4
  have HB4 := Lib.hid (HB3.out.grown hg4 HB3.out.size (fun j hj => by cases hj))
  clear hg4 HMAP HB3
  go_loopw [8] (fun out wr => ∃ (raw : List (List UInt8)) (lt : List UInt8 → Bool) (c : Nat), wr.ownsRow w4.heap.size 9 1 out raw.length (raw.map sv) ∧ RangesAt Tryz.prog wr 9 g w3.heap.size (pairF l m) lt c ∧ RawLines l m lt raw ∧ raw.length + c ≤ 40 ∧ Below w.heap.size w wr ∧ w4.heap.size ≤ wr.heap.size)
    (fun _ wr => wr.rangeLeft g w3.heap.size)
  case atStart => exact ⟨[], _, n, World.ownsRow_nil _ _ _ _, hr4, RawLines.start l m, by simpa using hn40, HB4.out, Nat.le_refl _⟩
  case round =>
    obtain ⟨raw, lt, c, hrow, hr, hraw, hrc, hb, hsz⟩ := hrel
    have HR := Lib.hid hr
    have HRAW := Lib.hid hraw
    have HB := Lib.hid hb
    have hrl := hr.new_lt
    have hbs := hb.size
    clear hr hraw hb hr4 HB4
    go_wp2_with (at_next; refine wpList_next_at rfl _ rfl 9 Tryz.underlying9 g w3.heap.size c _ lt rfl HR.out ?_ ?_)
    · intro hl0
      have hlong : ∀ x ∈ raw, 2 ≤ x.length ∧ x.length ≤ 100000 := fun x hx => by
        obtain ⟨t, h1, h2, rfl⟩ := (HRAW.out.mem x).1 hx
        have h3 := line_two h2
        obtain ⟨y, hy, rfl⟩ := line_name h2
        have h4 : y.n.length ≤ 90000 := by
          rcases hy with hy | hy
          · exact (HSL.out.2 y hy).1
          · exact (HSM.out.2 y hy).1
        rw [List.length_append]
        omega
      have HLONG := Lib.hid hlong
      have HL0 := Lib.hid hl0
      clear hlong hl0
      go_wp2_with fail
      refine (sortLines_any raw _ w4.heap.size _ hrow (by omega) HLONG.out).mono ?_
      rintro e w5 ⟨rfl, ⟨s, sa, sc, rfl, hperm, hin, hta, hsc⟩, hb5⟩
      have HD := Lib.hid (HRAW.out.sorted HL0.out hperm hin)
      have HTA := Lib.hid hta
      have hbase : w.heap.size ≤ w4.heap.size := by have := HRB.out; have := HS4.out; omega
      have HB5 := Lib.hid (HB.out.trans (hb5.mono hbase))
      have hpl := hperm.length_eq
      clear hperm hin hta hb5
      go_wp2
      go_ret2
      exact ⟨⟨s, sa, sc, by rw [hpl]; rfl, HD.out, HTA.out, by omega, by omega⟩, HB5.out⟩
    · intro u v w5 c5 hf hlu hr5 hlt5 hg5 hs5 hen
      obtain ⟨rfl, x, hx, hxn⟩ := pair_some hf
      have hul : u.length ≤ 90000 := by
        rw [← hxn]
        rcases hx with hx | hx
        · exact (HSL.out.2 x hx).1
        · exact (HSM.out.2 x hx).1
      have HLN : Hid (lineW l m u = markL ((atW l u).getD noW) ((atW m u).getD noW)) := rfl
      have HMK := fun W => mark_any ((atW l u).getD noW) ((atW m u).getD noW) W
      rw [← HLN.out] at HMK
      generalize (atW l u).getD noW = X at hen HMK HLN
      generalize (atW m u).getD noW = Y at hen HMK HLN
      obtain ⟨n1, u1, k1, s1, m1⟩ := X
      obtain ⟨n2, u2, k2, s2, m2⟩ := Y
      have HR5 := Lib.hid hr5
      have HLU := Lib.hid hlu
      have HF := Lib.hid hf
      have hrow5 := owns_keep (w' := w5) hrow fun j hj hjw => hg5.block j hjw fun e => by
        have := HS4.out
        have := Option.some.inj e
        omega
      have HB5 := Lib.hid (HB.out.grown hg5 hbs fun j hj => by
        have := Option.some.inj hj
        have := HRB.out
        omega)
      clear hr5 hlu hf hx hxn hrow
      go_wp2_with fail
      refine (HMK _).mono ?_
      rintro e w6 ⟨rfl, hb6⟩
      have hb56 : Below w5.heap.size w5 w6 := ((Below.refl _ _).alloc (Nat.le_refl _) _).trans (hb6.mono (by simp))
      have hrow6 := owns_below hrow5 hb56
      have HR6 := Lib.hid (HR5.out.kept (row := none) ⟨hb56.os, hb56.tape, hb56.output, hb56.size, fun k hk _ => hb56.block k hk⟩ (by simp) (by simp))
      have HB6 := Lib.hid (HB5.out.trans (hb56.mono HB5.out.size))
      have hsz6 : w4.heap.size ≤ w6.heap.size := by have := hb56.size; omega
      clear hb6 hrow5 hb56 HMK hen
      by_cases hr0 : lineW l m u = []
      · have HRW := Lib.hid (HRAW.out.pass hr0)
        rw [hr0]
        clear hr0
        go_wp2_with fail
        go_roundw
        case rel => exact ⟨raw, _, c5, hrow6, HR6.out, HRW.out, by omega, HB6.out, hsz6⟩
        case measure => rw [HR6.out.left_eq, HR.out.left_eq]; exact hlt5
      · have HRW := Lib.hid (HRAW.out.next HKL.out HKM.out HLU.out hr0)
        have h2 := line_two hr0
        have hne : (lineW l m u == []) = false := by simpa using hr0
        have hcat : ({ data := (lineW l m u).toArray } : ByteArray) ++ ({ data := u.toArray } : ByteArray) = ⟨(lineW l m u ++ u).toArray⟩ := by
          apply ByteArray.ext
          simp [ByteArray.data_append]
        generalize lineW l m u = r at HRW h2 hne hr0 hcat ⊢
        have hlt40 : raw.length < 40 := by omega
        clear hr0
        go_wp2_with (at_builtin; refine wpList_append_own _ rfl _ _ 33 rfl w4.heap.size 9 i0 (.string ⟨#[]⟩) 1 16 Tryz.underlying33 hi hz0 hz1 hz2 rfl (by decide) _ _ _ rfl (hrow6.alloc _) ⟨w6.heap.size, 0, none⟩ 1 1 [.string ⟨(r ++ u).toArray⟩] rfl rfl (cell_one_new _ _ _) (by simp [Value.oneCell']) (by unfold maxLen; omega) (by omega) (by simp; omega) ?_; intro v' w7 hown' hgrow _)
        have hbase : w.heap.size ≤ w4.heap.size := by have := HRB.out; have := HS4.out; omega
        have HR7 := Lib.hid ((HR6.out.alloc (.cells #[.string ⟨(r ++ u).toArray⟩] 9)).kept hgrow (fun e => by have := (hrow6.lt g e.symm).1; have := HS4.out; have := HGL.out; omega) (fun e => by have := (hrow6.lt _ e.symm).1; have := HS4.out; omega))
        have HB7 := Lib.hid ((HB6.out.alloc HB6.out.size _).grown hgrow (by have := HB6.out.size; simp; omega) (fun j ej => Nat.le_trans hbase (hrow6.lt j ej).1))
        go_roundw
        case rel => exact ⟨raw ++ [r ++ u], _, c5, by simpa using hown', HR7.out, HRW.out, by simp; omega, HB7.out, Nat.le_trans hsz6 (by have := hgrow.size; simp at this; omega)⟩
        case measure => rw [HR7.out.left_eq, HR.out.left_eq]; exact hlt5
end Go.Proofs.YtmeipangcgdinaaGreatDoor
