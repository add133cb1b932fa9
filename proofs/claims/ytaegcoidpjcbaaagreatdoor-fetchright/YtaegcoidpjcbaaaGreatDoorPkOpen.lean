/-
  Package press: room, Open: contracts, over this seat's translation.
-/
import Derived.Test.YtaegcoidpjcbaaaGreatDoorPkTimesPkEachPkSize
import Derived.Test.YtaegcoidpjcbaaaGreatDoorWrittenWrittenByte
import Derived.Defers
import Derived.Recover
namespace Go.Proofs.YtaegcoidpjcbaaaGreatDoor
open Go.RowKit Go.Shelf

theorem Built.keep {B b : Nat} {l : List UInt8} {w w' : World} (h : Built B b l w) (hk : ∀ g, B ≤ g → g < w.heap.size → w'.heap[g]? = w.heap[g]?) : Built B b l w' := by
  have go : ∀ q, Lib.BuilderAtF 139 5 B b q (Lib.byteCells l) w → Lib.BuilderAtF 139 5 B b q (Lib.byteCells l) w' := by
    rintro q ⟨h1, v, h2, h3, h4⟩
    refine ⟨h1, v, (hk b h1 (Array.getElem?_eq_some_iff.1 h2).1).trans h2, ⟨h3.1, ?_⟩, h4⟩
    rcases h3.2 with h0 | ⟨g, cap, cur, fz, hv, hg, hh, r⟩
    · exact .inl h0
    · exact .inr ⟨g, cap, cur, fz, hv, hg, (hk g hg (Array.getElem?_eq_some_iff.1 hh).1).trans hh, r⟩
  exact h.imp (go _) (go _)

/-- The deferred function of room, of a frame that returns: nothing is recovered. -/
theorem room_idle (p : Addr) (v : Value) (w : World) (hc : w.cell? p = some v) (hz : w.frozen? p = false) :
    CallsD Tryz.prog 189 #[.pointer (some p)] .returning w fun e u' w' => e = .returned (.tuple #[]) ∧ u' = .returning ∧ w' = w.setCell p (.bool true) := by
  refine callsD_of_wpS Tryz.func189 rfl fun c₀ cs hu => ?_
  apply wpS_region
  simp [wpOpsS, go_sem, recoverD, hu, Tryz.ntmps189, hc, hz, bodyPostS, results, Tryz.results189]
  cases c₀
  simp_all

set_option maxRecDepth 100000 in
theorem room_any (n : Nat) (w : World) (hn : n ≤ 281474976710656) :
    Calls Tryz.prog 168 #[.int .i64 n] w fun e w' => e = .returned (.tuple #[.pointer (some ⟨w.heap.size + 1, 0, none⟩), .bool true]) ∧ Built (w.heap.size + 1) (w.heap.size + 1) [] w' ∧ Below w.heap.size w w' := by
  have hmf : ∀ (fn : Fn) (first cap : Array Value) (w : World), (Instr.makeFunc fn first cap).run Tryz.prog w = .ok (.func fn first cap) w := fun _ _ _ _ => rfl
  go_enter_defers Tryz.func168, Tryz.ntmps168
  go_wp2_with fail
  have hsz : (w.alloc (.cells #[.bool false] 4)).heap.size = w.heap.size + 1 := by simp
  have hbk : ((w.alloc (.cells #[.bool false] 4)).alloc (.cells #[.pointer none, .slice none 0 0] 139)).heap[w.heap.size + 1]? = some (.cells #[.pointer none, .slice none 0 0] 139 (0, 0)) := by
    have := heap_new (w.alloc (.cells #[.bool false] 4)) (.cells #[.pointer none, .slice none 0 0] 139)
    rw [hsz] at this
    exact this
  refine (built_grow (w.heap.size + 1) n _ hbk hn).mono ?_
  rintro e w1 ⟨rfl, hk, hb⟩
  have hb' : Below (w.heap.size + 1) (w.alloc (.cells #[.bool false] 4)) w1 := ((Below.refl _ _).alloc (by simp) _).trans hb
  have hone : w1.heap[w.heap.size]? = some (.cells #[.bool false] 4 (0, 0)) := (hb'.block w.heap.size (Nat.lt_succ_self _)).trans (heap_new w _)
  have HB := Lib.hid (((Below.refl _ w).alloc (Nat.le_refl _) (.cells #[.bool false] 4)).trans (hb'.mono (Nat.le_succ _)))
  have HK := Lib.hid hk
  have HO := Lib.hid hone
  have hc := cell_of_one hone
  have hz := free_of_one hone
  clear hb hb' hk hone hbk
  go_wp2
  have ho2 := one_setCell (u := .bool true) HO.out
  have hc2 := cell_of_one ho2
  have hz2 := free_of_one ho2
  have ho3 := one_setCell (u := .bool true) ho2
  have hc3 := cell_of_one ho3
  refine leaves_cons (f := 189) (args := #[.pointer (some ⟨w.heap.size, 0, none⟩)]) (by simp) (by simp [go_sem]) ?_
  refine (room_idle ⟨w.heap.size, 0, none⟩ (.bool true) _ hc2 hz2).mono ?_
  rintro e u' w'' ⟨rfl, rfl, rfl⟩
  have hfin : Built (w.heap.size + 1) (w.heap.size + 1) [] ((w1.setCell ⟨w.heap.size, 0, none⟩ (.bool true)).setCell ⟨w.heap.size, 0, none⟩ (.bool true)) ∧ Below w.heap.size w ((w1.setCell ⟨w.heap.size, 0, none⟩ (.bool true)).setCell ⟨w.heap.size, 0, none⟩ (.bool true)) := by
    refine ⟨HK.out.keep fun g hg _ => ?_, (HB.out.setCell (Nat.le_refl _) _).setCell (Nat.le_refl _) _⟩
    exact (Below.heap_setCell _ _ _ _ (by show g ≠ w.heap.size; omega)).trans (Below.heap_setCell _ _ _ _ (by show g ≠ w.heap.size; omega))
  generalize (w1.setCell ⟨w.heap.size, 0, none⟩ (.bool true)).setCell ⟨w.heap.size, 0, none⟩ (.bool true) = W at hc3 hfin ⊢
  simp [Leaves, settle, results, Tryz.results168, go_sem, hc3, hfin]

theorem openHand_any (B bb bx n : Nat) (b : UInt8) (l : List UInt8) (w : World) (h : Built B bb l w) (hB : B ≤ bb) (hl : l.length + n ≤ 140737488355328) (hn : n ≤ 999999999)
    (hbx : w.heap[bx]? = some (.cells #[.pointer (some ⟨bb, 0, none⟩)] 136 (0, 0))) (hne : bx ≠ bb) :
    Calls Tryz.prog 170 #[.int .i64 n, .int .u8 b.toNat, .pointer (some ⟨bx, 0, none⟩)] w fun e w' => e = .returned (.tuple #[]) ∧ Built B bb (l ++ List.replicate n b) w' ∧ Below B w w' ∧ w'.heap[bx]? = some (.cells #[.pointer (some ⟨bb, 0, none⟩)] 136 (0, 0)) := by
  have HK := Lib.hid h
  have HX := Lib.hid hbx
  have hBw : B ≤ w.heap.size := Nat.le_trans hB (Nat.le_of_lt h.lt)
  clear h hbx
  go_enter Tryz.func170, Tryz.ntmps170
  go_wp2_with fail
  go_loopw [6] (fun iv wr => ∃ i : Nat, i ≤ n ∧ iv = .int .i64 (i : Int) ∧ Built B bb (l ++ List.replicate i b) wr ∧ Below B w wr ∧ wr.heap[bx]? = some (.cells #[.pointer (some ⟨bb, 0, none⟩)] 136 (0, 0))) (fun iv _ => n - (intOf iv).toNat)
  case atStart => exact ⟨0, by omega, rfl, by simpa using HK.out, Below.refl _ _, HX.out⟩
  case round =>
    obtain ⟨i, hi, rfl, hk, hb, hx⟩ := hrel
    have HK1 := Lib.hid hk
    have HB1 := Lib.hid hb
    have HX1 := Lib.hid hx
    have hc := cell_of_one hx
    clear hk hb hx
    by_cases hlt : i < n
    · have hlt' : (i : Int) < (n : Int) := by omega
      go_wp2_with fail
      refine (built_byte B bb _ b _ HK1.out (by simp; omega) (Nat.le_trans hBw HB1.out.size)).mono ?_
      rintro e w2 ⟨rfl, hk2, hb2, ho2⟩
      have HX2 := Lib.hid (ho2 bx _ HX1.out (fun e => hne (Option.some.inj e)) (fun c' fz' e => by cases e))
      have HK2 := Lib.hid hk2
      have HB2 := Lib.hid (HB1.out.trans hb2)
      clear hk2 hb2 ho2 hc
      go_wp2
      go_roundw
      case rel =>
        refine ⟨i + 1, by omega, by go_num, ?_, HB2.out, HX2.out⟩
        rw [List.replicate_succ', ← List.append_assoc]
        exact HK2.out
      case measure => simp [intOf]; omega
    · obtain rfl : i = n := by omega
      go_wp2
      go_end0
      exact ⟨rfl, HK1.out, HB1.out, HX1.out⟩

set_option maxRecDepth 100000 in
set_option maxHeartbeats 2000000 in
theorem open_any (p : Nat → Addr) (s : List UInt8) (most : Int) (w : World) (hs : s.length ≤ 1000000000) (hm : most ≤ 140737488355328) (hE : Env p w) :
    Calls Tryz.prog 157 #[.string ⟨s.toArray⟩, .int .i64 most] w fun e w' => ∃ v, e = .returned (.tuple #[.string ⟨(openS s most).1.toArray⟩, v]) ∧ ErrAt p w' v (openS s most).2.1 (openS s most).2.2 ∧ Below w.heap.size w w' := by
  have eg : ∀ args w, (callFunc 170 args).run Tryz.prog w = .ok (.enter 170 args) w := enters_of Tryz.func170 (by kernel_rfl) rfl
  have hmf : ∀ (fn : Fn) (first cap : Array Value) (w : World), (Instr.makeFunc fn first cap).run Tryz.prog w = .ok (.func fn first cap) w := fun _ _ _ _ => rfl
  have HE := Lib.hid hE
  have HE0 : Hid (∀ W, Below w.heap.size w W → Env p W) := fun _ h => hE.below h
  clear hE
  go_enter Tryz.func157, Tryz.ntmps157
  go_wp2_with fail
  refine (size_any p s _ hs HE.out).mono ?_
  rintro e w1 ⟨v, rfl, hv, hb1⟩
  have HB1 := Lib.hid hb1
  have HE1 := Lib.hid (HE.out.below hb1)
  clear hb1 HE
  cases hr : (readL s).2 with
  | some k =>
    have HO := Lib.hid (openS_some most hr)
    rw [hr] at hv
    obtain ⟨T, u, rfl⟩ := hv.some (by simp [placeE])
    have HV := Lib.hid hv
    clear hr hv
    go_wp2
    go_ret2
    exact ⟨_, by rw [HO.out]; rfl, by rw [HO.out]; exact HV.out, HB1.out⟩
  | none =>
    have HR := Lib.hid hr
    rw [runsS_none hr]
    rw [hr] at hv
    obtain rfl := hv.isNil
    clear hv
    by_cases hfull : most < (sizeL (readL s).1 : Int)
    · have HO := Lib.hid (openS_full hr hfull)
      have g7 := HE1.out.s7
      clear hr
      go_wp2_with fail
      go_quiet (fail)
      go_wp2
      go_ret2
      exact ⟨_, by rw [HO.out]; rfl, by rw [HO.out]; exact .inr (.inl ⟨7, rfl, by decide, rfl, rfl⟩), below_drewN HB1.out _⟩
    · have HO := Lib.hid (openS_fine hr hfull)
      have hfull' : ¬ most < (sizeL (readL s).1 : Int) := hfull
      clear hr
      go_wp2_with fail
      refine (room_any (sizeL (readL s).1) _ (by omega)).mono ?_
      rintro e w2 ⟨rfl, hk2, hb2⟩
      have hsz2 : w1.heap.size + 1 < w2.heap.size := hk2.lt
      have HK2 := Lib.hid hk2
      have HB2 := Lib.hid hb2
      clear hk2 hb2
      go_wp2_with fail
      obtain ⟨W0, hW0⟩ : ∃ W0, W0 = w2.alloc (.cells #[.pointer (some ⟨w1.heap.size + 1, 0, none⟩)] 136) := ⟨_, rfl⟩
      have hx0 : W0.heap[w2.heap.size]? = some (.cells #[.pointer (some ⟨w1.heap.size + 1, 0, none⟩)] 136 (0, 0)) := by rw [hW0]; exact heap_new _ _
      have hB0 : Below w2.heap.size w2 W0 := by rw [hW0]; exact (Below.refl _ _).alloc (Nat.le_refl _) _
      have hK0 := HK2.out.below hB0
      have hBw : Below w.heap.size w W0 := HB1.out.trans ((HB2.out.trans (hB0.mono HB2.out.size)).mono HB1.out.size)
      rw [← hW0]
      have hne : w2.heap.size ≠ w1.heap.size + 1 := by omega
      clear hW0 hB0 HK2 HB2
      have hws := HB1.out.size
      refine (eachPressed_any p s 170 #[.pointer (some ⟨w2.heap.size, 0, none⟩)] eg (fun d W => Built (w1.heap.size + 1) (w1.heap.size + 1) (openL d) W ∧ Below w.heap.size w W ∧ W.heap[w2.heap.size]? = some (.cells #[.pointer (some ⟨w1.heap.size + 1, 0, none⟩)] 136 (0, 0))) _ hs ⟨hK0, hBw, hx0⟩ (fun d W h => ?_) ?_).mono ?_
      · exact HE0.out _ h.2.1
      · rintro d n b tl W hp ⟨hk, hb, hx⟩
        obtain ⟨h1, h2, h3⟩ := read_prefix hp hs
        refine (openHand_any (w1.heap.size + 1) (w1.heap.size + 1) w2.heap.size n b (openL d) W hk (Nat.le_refl _) (by rw [openL_length]; omega) h2 hx hne).mono ?_
        rintro e W' ⟨rfl, hk', hb', hx'⟩
        exact ⟨rfl, by rw [openL_snoc]; exact hk', hb.trans (hb'.mono (by omega)), hx'⟩
      rintro e w3 ⟨v, w4, rfl, ⟨hk, hb, hx⟩, hb3, hv⟩
      rw [HR.out] at hv
      obtain rfl := hv.isNil
      have hx3 := (hb3.block w2.heap.size (Array.getElem?_eq_some_iff.1 hx).1).trans hx
      have HK3 := Lib.hid (hk.below hb3)
      have HB3 := Lib.hid (hb.trans (hb3.mono hb.size))
      have hc := cell_of_one hx3
      clear hk hb hx hb3 hv hx3 hx0 hK0 hBw
      go_wp2_with fail
      refine (built_string (w1.heap.size + 1) (w1.heap.size + 1) _ _ HK3.out (Nat.le_of_lt HK3.out.lt)).mono ?_
      rintro e w5 ⟨rfl, hb5⟩
      have HB5 := Lib.hid (HB3.out.trans (hb5.mono (by omega)))
      clear hb5
      go_wp2
      go_ret2
      exact ⟨_, by rw [HO.out]; rfl, by rw [HO.out]; exact ErrAt.fine p _, HB5.out⟩
end Go.Proofs.YtaegcoidpjcbaaaGreatDoor
