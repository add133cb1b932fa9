/-
  Package tree's Check tells of every list of files what the plain function tells: over this seat's translation.
-/
import Derived.Test.YtkcjgncpcidfoaaGreatDoorPkNext
import Derived.StillTailTactics
namespace Go.Proofs.YtkcjgncpcidfoaaGreatDoor
open Go.RowKit Go.Shelf

theorem next_ok (p : Nat → Addr) (pre : List F) (f : F) (b o n ca : Nat) (w : World) (hn' : pre.length = n) (hE : Env p w) (hb : b < w.heap.size) (hl : LiesAt w (some ⟨b, o, none⟩) pre) (hn : pre.length ≤ 100000) (hs : ∀ g ∈ pre, g.p.length ≤ 40000) (hf : f.p.length ≤ 40000) (ht : f.t.length ≤ 500000) (h : fileCode pre f = 0) :
    Calls Tryz.prog 28 #[.slice (some ⟨b, o, none⟩) n ca, fv f] w fun e w' => e = .returned .nilIface ∧ Below w.heap.size w w' := by
  have := next_any p pre f b o ca w hE hb hl hn hs hf ht
  rwa [h, hn'] at this
theorem next_bad (p : Nat → Addr) (pre : List F) (f : F) (b o n ca k : Nat) (w : World) (hn' : pre.length = n) (hE : Env p w) (hb : b < w.heap.size) (hl : LiesAt w (some ⟨b, o, none⟩) pre) (hn : pre.length ≤ 100000) (hs : ∀ g ∈ pre, g.p.length ≤ 40000) (hf : f.p.length ≤ 40000) (ht : f.t.length ≤ 500000) (h : fileCode pre f = k + 1) :
    Calls Tryz.prog 28 #[.slice (some ⟨b, o, none⟩) n ca, fv f] w fun e w' => e = .returned (.iface 171 (.pointer (some (p k)))) ∧ Below w.heap.size w w' := by
  have := next_any p pre f b o ca w hE hb hl hn hs hf ht
  rwa [h, hn'] at this

theorem LiesAt.take {w : World} {a : Option Addr} {l : List F} (h : LiesAt w a l) (k : Nat) : LiesAt w a (l.take k) := fun hne => by
  have hl : l ≠ [] := fun e => hne (by rw [e]; simp)
  obtain ⟨b, o, e, hc⟩ := h hl
  refine ⟨b, o, e, fun j hj => ?_⟩
  rw [List.getElem_take]
  exact hc j (by rw [List.length_take] at hj; omega)

theorem pair_cells {w w' : World} {x y : Value} {T : TypeId} (h : Below (w.heap.size + 1) (w.alloc (.cells #[x, y] T)) w') :
    w'.cell? ⟨w.heap.size, 0, none⟩ = some x ∧ w'.cell? ⟨w.heap.size, 0 + 1, none⟩ = some y := by
  have := slot_two h
  exact ⟨this.1, this.2.1⟩

set_option maxRecDepth 100000 in
set_option maxHeartbeats 4000000 in
theorem checkTree_any (p : Nat → Addr) (l : List F) (a : Option Addr) (ca : Nat) (w : World) (hE : Env p w) (hl : LiesAt w a l) (hca : l.length ≤ ca) (hs : Small l) :
    Calls Tryz.prog 15 #[.slice a l.length ca] w fun e w' => (∃ v, e = .returned v ∧ ErrAt p w' v (treeFault l).1 (treeFault l).2) ∧ Below w.heap.size w w' := by
  have hfew := hs.few
  have HE : Hid (Env p w) := hE
  by_cases hlong : 30 < l.length
  · have HT : Hid (treeFault l = (8, -1)) := treeFault_long hlong
    have h30 : (30 : Int) < (l.length : Int) := by omega
    have s7 := hE.s7
    clear hl hE
    go_enter Tryz.func15, Tryz.ntmps15
    go_wp2
    go_ret
    exact ⟨⟨_, rfl, by rw [HT.out]; exact .inr (.inl ⟨7, rfl, by omega, rfl, rfl⟩)⟩, Below.refl _ _⟩
  · have h30 : ¬ (30 : Int) < (l.length : Int) := by omega
    have HL : Hid (LiesAt w a l) := hl
    have HPATH : Hid (∀ f ∈ l, f.p.length ≤ 40000) := hs.path
    have HTEXT : Hid (∀ f ∈ l, f.t.length ≤ 500000) := hs.text
    clear hl hs hE
    go_enter Tryz.func15, Tryz.ntmps15
    go_wp2_with fail
    have hmx : Tryz.prog.follows .mixedOrders = true := by kernel_rfl
    go_loopw [3, 13] (fun al i wr => ∃ q : Nat, q ≤ l.length ∧ i = .int .i64 q ∧ al = .int .i64 (total (l.take q)) ∧ (∀ j (h : j < l.length), j < q → fileCode (l.take j) l[j] = 0) ∧ Below w.heap.size w wr) (fun _ i _ => l.length - (intOf i).toNat)
    case atStart => exact ⟨0, by omega, rfl, by simp [total], fun _ _ h => by omega, Below.refl _ _⟩
    case round =>
      obtain ⟨q, hq, rfl, rfl, hz, hb⟩ := hrel
      have HB : Hid (Below w.heap.size w wr) := hb
      have HZ : Hid (∀ j (h : j < l.length), j < q → fileCode (l.take j) l[j] = 0) := hz
      clear hb hz
      by_cases hlt : q < l.length
      · have hlt' : (q : Int) < (l.length : Int) := by omega
        obtain ⟨b, o, rfl, c0, c1, c2⟩ := (HL.out.below HB.out).at hlt
        have hbw : b < wr.heap.size := block_lt_of_cell c0
        have hpl := HPATH.out _ (List.getElem_mem hlt)
        have htl := HTEXT.out _ (List.getElem_mem hlt)
        have hq0 : (0 : Int) ≤ (q : Int) := by omega
        have hqc : (q : Int) ≤ (ca : Int) := by omega
        have HTK : Hid ((l.take q).length = q) := by show (l.take q).length = q; rw [List.length_take]; omega
        have HPT : Hid (∀ g ∈ l.take q, g.p.length ≤ 40000) := fun g hg => HPATH.out g (List.mem_of_mem_take hg)
        cases hc : fileCode (l.take q) l[q] with
        | succ k =>
          have HF : Hid (treeFault l = (k + 1, (q : Int))) := by
            have := treeFault_at (l := l) (by omega) hlt HZ.out (by rw [hc]; simp)
            rwa [hc] at this
          have HC : Hid (fileCode (l.take q) l[q] = k + 1) := hc
          have hk13 : k < 13 := by have := fileCode_le (l.take q) l[q]; omega
          clear hc
          generalize l[q] = f at c0 c1 c2 hpl htl HC
          go_wp2_with fail
          obtain ⟨W, hW⟩ : ∃ W, W = wr.alloc (.cells #[.string ⟨f.p.toArray⟩, .bool f.r, .string ⟨f.t.toArray⟩] 46) := ⟨_, rfl⟩
          obtain ⟨g0, g1, g2, hBW⟩ := box_three (w := wr) (w' := W) (x := .string ⟨f.p.toArray⟩) (y := .bool f.r) (z := .string ⟨f.t.toArray⟩) (T := 46) (by rw [hW]; exact Below.refl _ _)
          have hsz : W.heap.size = wr.heap.size + 1 := by rw [hW, World.size_alloc]
          rw [← hW]
          have HWB : Hid (Below wr.heap.size wr W) := hBW
          clear hBW hW
          go_still_tail 4, hmx
          go_wp2_with fail
          have hB0 : Below w.heap.size w W.drew := (HB.out.trans (HWB.out.mono HB.out.size)).drew
          refine (next_bad p (l.take q) f b o q ca k _ HTK.out (HE.out.below hB0) (by show b < W.heap.size; omega) ((HL.out.below hB0).take q) (by rw [HTK.out]; omega) HPT.out hpl htl HC.out).mono ?_
          rintro e w2 ⟨rfl, hb2⟩
          have HB2 : Hid (Below w.heap.size w w2) := hB0.trans (hb2.mono hB0.size)
          clear hb2 hB0
          go_wp2
          go_ret
          have hpc := pair_cells (w := w2) (x := .int .i64 q) (y := .iface 171 (.pointer (some (p k)))) (T := 64) (Below.refl _ _)
          exact ⟨⟨_, rfl, by rw [HF.out]; exact .inr (.inr ⟨k, _, _, rfl, hk13, rfl, hpc.1, hpc.2⟩)⟩, HB2.out.alloc HB2.out.size _⟩
        | zero =>
          have HN : Hid (∀ j (h : j < l.length), j < q + 1 → fileCode (l.take j) l[j] = 0) := by
            intro j hj hjq
            by_cases e : j = q
            · subst e; exact hc
            · exact HZ.out j hj (by omega)
          have HC : Hid (fileCode (l.take q) l[q] = 0) := hc
          have HSUM : Hid (total (l.take (q + 1)) = total (l.take q) + l[q].t.length) := total_succ hlt
          have HTT := total_take HTEXT.out q
          clear hc
          generalize l[q] = f at c0 c1 c2 hpl htl HC HSUM
          go_wp2_with fail
          obtain ⟨W, hW⟩ : ∃ W, W = wr.alloc (.cells #[.string ⟨f.p.toArray⟩, .bool f.r, .string ⟨f.t.toArray⟩] 46) := ⟨_, rfl⟩
          obtain ⟨g0, g1, g2, hBW⟩ := box_three (w := wr) (w' := W) (x := .string ⟨f.p.toArray⟩) (y := .bool f.r) (z := .string ⟨f.t.toArray⟩) (T := 46) (by rw [hW]; exact Below.refl _ _)
          have hsz : W.heap.size = wr.heap.size + 1 := by rw [hW, World.size_alloc]
          rw [← hW]
          have HWB : Hid (Below wr.heap.size wr W) := hBW
          clear hBW hW
          go_still_tail 4, hmx
          go_wp2_with fail
          have hB0 : Below w.heap.size w W.drew := (HB.out.trans (HWB.out.mono HB.out.size)).drew
          refine (next_ok p (l.take q) f b o q ca _ HTK.out (HE.out.below hB0) (by show b < W.heap.size; omega) ((HL.out.below hB0).take q) (by rw [HTK.out]; omega) HPT.out hpl htl HC.out).mono ?_
          rintro e w2 ⟨rfl, hb2⟩
          have k2 : w2.cell? ⟨wr.heap.size, 2, none⟩ = some (sv f.t) := (hb2.cell (p := ⟨wr.heap.size, 2, none⟩) (by show wr.heap.size < W.heap.size; omega)).trans g2
          have HB2 : Hid (Below w.heap.size w w2) := hB0.trans (hb2.mono hB0.size)
          clear hb2 hB0 g0 g1 g2
          go_wp2
          go_roundw
          case rel => exact ⟨q + 1, by omega, by go_num, by rw [HSUM.out]; go_num, HN.out, HB2.out⟩
          case measure => simp [intOf]; omega
      · obtain rfl : q = l.length := by omega
        have hall : ∀ j (h : j < l.length), fileCode (l.take j) l[j] = 0 := fun j hj => HZ.out j hj hj
        have HEnd := treeFault_end (l := l) (by omega) hall
        have htk := total_take HTEXT.out l.length
        rw [List.take_length] at htk ⊢
        clear hall
        by_cases hbig : 12000 < total l
        · rw [if_pos hbig] at HEnd
          have HF : Hid (treeFault l = (2, -1)) := HEnd
          have hbig' : (12000 : Int) < (total l : Int) := by omega
          have s1 := (HE.out.below HB.out).s1
          clear HEnd
          go_wp2
          go_ret
          exact ⟨⟨_, rfl, by rw [HF.out]; exact .inr (.inl ⟨1, rfl, by omega, rfl, rfl⟩)⟩, HB.out⟩
        · rw [if_neg hbig] at HEnd
          have HF : Hid (treeFault l = (0, -1)) := HEnd
          have hbig' : ¬ (12000 : Int) < (total l : Int) := by omega
          clear HEnd
          go_wp2
          go_ret
          exact ⟨⟨_, rfl, by rw [HF.out]; exact .inl ⟨rfl, rfl, rfl⟩⟩, HB.out⟩
end Go.Proofs.YtkcjgncpcidfoaaGreatDoor
