/-
  Package tree's checkNext: over this seat's translation.
-/
import Derived.Test.YtkcjgncpcidfoaaGreatDoorErrAt
import Derived.Test.YtkcjgncpcidfoaaGreatDoorTreeSlots
import Derived.Test.YtkcjgncpcidfoaaGreatDoorPaths
import Derived.Test.YtkcjgncpcidfoaaGreatDoorTreeAt
import Derived.Test.YtkcjgncpcidfoaaGreatDoorTreeOwn
import Derived.Test.YtkcjgncpcidfoaaGreatDoorShelf2
namespace Go.Proofs.YtkcjgncpcidfoaaGreatDoor
open Go.RowKit Go.Shelf

/-- Files whose paths are not too long. -/
abbrev SF := { f : F // f.p.length ≤ 40000 }

theorem packed : ∀ l : List F, (∀ g ∈ l, g.p.length ≤ 40000) → ∃ zs : List SF, zs.map (fun x => x.1) = l
  | [], _ => ⟨[], rfl⟩
  | f :: l, h => by
    obtain ⟨zs, e⟩ := packed l fun g hg => h g (List.mem_cons_of_mem _ hg)
    exact ⟨⟨f, h f List.mem_cons_self⟩ :: zs, by rw [List.map_cons, e]⟩

theorem box_three {w w' : World} {x y z : Value} {T : TypeId} (h : Below (w.heap.size + 1) (w.alloc (.cells #[x, y, z] T)) w') :
    w'.cell? ⟨w.heap.size, 0, none⟩ = some x ∧ w'.cell? ⟨w.heap.size, 1, none⟩ = some y ∧ w'.cell? ⟨w.heap.size, 2, none⟩ = some z ∧ Below w.heap.size w w' := by
  have e := h.block w.heap.size (Nat.lt_succ_self _)
  rw [heap_new] at e
  exact ⟨by simp [World.cell?, e], by simp [World.cell?, e], by simp [World.cell?, e], ((Below.refl _ _).alloc (Nat.le_refl _) _).trans (h.mono (by omega))⟩

theorem inOf (p : Nat → Addr) (f g : F) (fb : Nat) (w : World) (hE : Env p w) (h0 : w.cell? ⟨fb, 0, none⟩ = some (sv f.p)) (hf : f.p.length ≤ 40000) (hg : g.p.length ≤ 40000) :
    Calls Tryz.prog 42 #[fv g, .pointer (some ⟨fb, 0, none⟩)] w fun e w' => e = .returned (.bool (isIn f.p g.p)) ∧ Below w.heap.size w w' := by
  have HE : Hid (Env p (w.alloc (.cells #[sv g.p, .bool g.r, sv g.t] 46))) := hE.below ((Below.refl _ _).alloc (Nat.le_refl _) _)
  have h0' : (w.alloc (.cells #[sv g.p, .bool g.r, sv g.t] 46)).cell? ⟨fb, 0, none⟩ = some (sv f.p) := by
    rw [World.cell?_alloc_lt _ _ ⟨fb, 0, none⟩ (block_lt_of_cell h0)]; exact h0
  clear hE h0
  go_enter Tryz.func42, Tryz.ntmps42
  go_wp2_with fail
  refine (in_any p f.p g.p _ HE.out (by omega) (by omega)).mono ?_
  rintro e w1 ⟨rfl, hb1⟩
  go_wp2
  go_ret
  exact ⟨rfl, ((Below.refl _ w).alloc (Nat.le_refl _) _).trans (hb1.mono (by simp))⟩

theorem contains_any (p : Nat → Addr) (pre : List F) (f : F) (fb b o ca : Nat) (w : World) (hE : Env p w) (hb : b < w.heap.size) (hl : LiesAt w (some ⟨b, o, none⟩) pre) (hn : pre.length ≤ 100000) (hs : ∀ g ∈ pre, g.p.length ≤ 40000)
    (h0 : w.cell? ⟨fb, 0, none⟩ = some (sv f.p)) (hf : f.p.length ≤ 40000) :
    Calls Tryz.prog 41 #[.slice (some ⟨b, o, none⟩) pre.length ca, .func (.func 42) #[] #[.pointer (some ⟨fb, 0, none⟩)]] w fun e w' => e = .returned (.bool (pre.any fun g => isIn f.p g.p)) ∧ Below w.heap.size w w' := by
  haveI : Inhabited SF := ⟨⟨⟨[], false, []⟩, by simp⟩⟩
  obtain ⟨zs, hzs⟩ := packed pre hs
  have hlen : zs.length = pre.length := by rw [← hzs, List.length_map]
  have hat : ∀ j (h : j < zs.length), (zs[j]!).1 = pre[j]'(by omega) := fun j hj => by
    subst hzs
    rw [getElem!_pos zs j hj]
    simp
  have hp : PredBelow Tryz.prog 42 #[.pointer (some ⟨fb, 0, none⟩)] (fun x : SF => .agg (fcells x.1).toArray) (fun x => isIn f.p x.1.p) w := fun W x hW => by
    refine (inOf p f x.1 fb W (hE.below hW) ((hW.cell (p := ⟨fb, 0, none⟩) (block_lt_of_cell h0)).trans h0) hf x.2).mono ?_
    rintro e w' ⟨rfl, hb'⟩
    exact ⟨rfl, hW.trans (hb'.mono hW.size)⟩
  have := AnyQ.slices_ContainsFunc Tryz.laysContains 3 Tryz.isAgg46 Tryz.sizeOf46 (fun x : SF => fcells x.1) (fun _ => rfl) (fun x => isIn f.p x.1.p) 42 #[.pointer (some ⟨fb, 0, none⟩)]
    (enters_of Tryz.func42 (by kernel_rfl) rfl) b o pre.length ca zs w hp (by omega) (by omega) hb (fun j hj i v hi => by
      obtain ⟨b', o', e', c0, c1, c2⟩ := hl.at (k := j) (by omega)
      cases e'
      rw [hat j hj] at hi
      rcases i with _ | _ | _ | i
      · simp [fcells] at hi; subst hi; simpa using c0
      · simp [fcells] at hi; subst hi; simpa using c1
      · simp [fcells] at hi; subst hi; simpa using c2
      · simp [fcells] at hi)
  refine this.mono ?_
  rintro e w' ⟨rfl, hb'⟩
  refine ⟨?_, hb'⟩
  rw [← hlen, List.take_length, ← hzs, List.any_map]
  rfl

set_option maxRecDepth 100000 in
set_option maxHeartbeats 4000000 in
theorem next_any (p : Nat → Addr) (pre : List F) (f : F) (b o ca : Nat) (w : World) (hE : Env p w) (hb : b < w.heap.size) (hl : LiesAt w (some ⟨b, o, none⟩) pre) (hn : pre.length ≤ 100000) (hs : ∀ g ∈ pre, g.p.length ≤ 40000) (hf : f.p.length ≤ 40000) (ht : f.t.length ≤ 500000) :
    Calls Tryz.prog 28 #[.slice (some ⟨b, o, none⟩) pre.length ca, fv f] w fun e w' => e = .returned (errV p (fileCode pre f)) ∧ Below w.heap.size w w' := by
  have HE : Hid (Env p w) := hE
  have HE0 : Hid (Env p (w.alloc (.cells #[sv f.p, .bool f.r, sv f.t] 46))) := hE.below ((Below.refl _ _).alloc (Nat.le_refl _) _)
  have HL : Hid (LiesAt w (some ⟨b, o, none⟩) pre) := hl
  have HS : Hid (∀ g ∈ pre, g.p.length ≤ 40000) := hs
  clear hE hl hs
  cases hc : checkCode f.p with
  | succ k =>
    have HF : Hid (fileCode pre f = k + 1) := by
      show fileCode pre f = k + 1
      unfold fileCode
      rw [if_pos (by omega), hc]
    have HC : Hid (checkCode f.p = k + 1) := hc
    clear hc
    go_enter Tryz.func28, Tryz.ntmps28
    go_wp2_with fail
    refine (check_bad p f.p k _ HE0.out (by omega) HC.out).mono ?_
    rintro e w1 ⟨rfl, hb1⟩
    go_wp2
    go_ret
    exact ⟨by rw [HF.out]; rfl, ((Below.refl _ w).alloc (Nat.le_refl _) _).trans (hb1.mono (by simp))⟩
  | zero =>
    have HC : Hid (checkCode f.p = 0) := hc
    by_cases hbig : 4000 < f.t.length
    · have HF : Hid (fileCode pre f = 2) := by
        show fileCode pre f = 2
        unfold fileCode
        rw [if_neg (by omega), if_pos hbig]
      have hbig' : (4000 : Int) < (f.t.length : Int) := by omega
      clear hc
      go_enter Tryz.func28, Tryz.ntmps28
      go_wp2_with fail
      refine (check_ok p f.p _ HE0.out (by omega) HC.out).mono ?_
      rintro e w1 ⟨rfl, hb1⟩
      obtain ⟨g0, g1, g2, hB⟩ := box_three (w := w) (hb1.mono (by simp))
      have s1 := (HE.out.below hB).s1
      have HB : Hid (Below w.heap.size w w1) := hB
      clear hb1 hB
      go_wp2
      go_ret
      exact ⟨by rw [HF.out]; rfl, HB.out⟩
    · have hbig' : ¬ (4000 : Int) < (f.t.length : Int) := by omega
      -- what comes behind the order's test
      have rest : Hid (∀ w1, Below (w.heap.size + 1) (w.alloc (.cells #[sv f.p, .bool f.r, sv f.t] 46)) w1 → Calls Tryz.prog 41 #[.slice (some ⟨b, o, none⟩) pre.length ca, .func (.func 42) #[] #[.pointer (some ⟨w.heap.size, 0, none⟩)]] w1 fun e w' => e = .returned (.bool (pre.any fun g => isIn f.p g.p)) ∧ Below w1.heap.size w1 w') := fun w1 h1 => by
        obtain ⟨g0, _, _, hB⟩ := box_three h1
        exact contains_any p pre f w.heap.size b o ca w1 (HE.out.below hB) (Nat.lt_of_lt_of_le hb hB.size) (HL.out.below hB) hn HS.out g0 hf
      by_cases hord : pre ≠ [] ∧ less ((pre.getLast?.map (·.p)).getD []) f.p = false
      · have HF : Hid (fileCode pre f = 9) := by
          show fileCode pre f = 9
          unfold fileCode
          rw [if_neg (by omega), if_neg hbig, if_pos hord]
        have hpos : 0 < pre.length := List.length_pos_iff.2 hord.1
        have hlast : (pre.getLast?.map (·.p)).getD [] = (pre[pre.length - 1]'(by omega)).p := by
          rw [List.getLast?_eq_getElem?, List.getElem?_eq_getElem (by omega)]; rfl
        have ho := hord.2
        rw [hlast] at ho
        have hle : (Op.bytesLess f.p (pre[pre.length - 1]'(by omega)).p || f.p == (pre[pre.length - 1]'(by omega)).p) = true := by
          cases h : Op.bytesLess f.p (pre[pre.length - 1]'(by omega)).p with
          | true => rfl
          | false => simp [less_total h ho]
        have hpos' : (0 : Int) < (pre.length : Int) := by omega
        have hsub : ((pre.length : Int) - 1) = ((pre.length - 1 : Nat) : Int) := by omega
        clear hc hord hlast ho rest
        go_enter Tryz.func28, Tryz.ntmps28
        go_wp2_with fail
        refine (check_ok p f.p _ HE0.out (by omega) HC.out).mono ?_
        rintro e w1 ⟨rfl, hb1⟩
        obtain ⟨g0, g1, g2, hB⟩ := box_three (w := w) (hb1.mono (by simp))
        have s8 := (HE.out.below hB).s8
        obtain ⟨b', o', e', c0, c1, c2⟩ := (HL.out.below hB).at (k := pre.length - 1) (by omega)
        cases e'
        have HB : Hid (Below w.heap.size w w1) := hB
        clear hb1 hB
        generalize (pre[pre.length - 1]'(by omega)) = g at c0 c1 c2 hle
        go_wp2_with fail
        go_quiet (fail)
        go_wp2
        go_ret
        exact ⟨by rw [HF.out]; rfl, below_drewN HB.out _⟩
      · have HF : Hid (fileCode pre f = if pre.any (fun g => isIn f.p g.p) then 11 else 0) := by
          show fileCode pre f = _
          unfold fileCode
          rw [if_neg (by omega), if_neg hbig, if_neg hord]
        by_cases hpos : 0 < pre.length
        · have hne : pre ≠ [] := List.length_pos_iff.1 hpos
          have hlast : (pre.getLast?.map (·.p)).getD [] = (pre[pre.length - 1]'(by omega)).p := by
            rw [List.getLast?_eq_getElem?, List.getElem?_eq_getElem (by omega)]; rfl
          have ho : less (pre[pre.length - 1]'(by omega)).p f.p = true := by
            rw [← hlast]
            cases h : less ((pre.getLast?.map (·.p)).getD []) f.p with
            | true => rfl
            | false => exact absurd ⟨hne, h⟩ hord
          have hle : (Op.bytesLess f.p (pre[pre.length - 1]'(by omega)).p || f.p == (pre[pre.length - 1]'(by omega)).p) = false := by
            have h1 := less_asymm ho
            have h2 := less_ne ho
            simp only [less] at h1
            simp [h1, Ne.symm h2]
          have hpos' : (0 : Int) < (pre.length : Int) := by omega
          have hsub : ((pre.length : Int) - 1) = ((pre.length - 1 : Nat) : Int) := by omega
          clear hc hord hlast ho hne
          go_enter Tryz.func28, Tryz.ntmps28
          go_wp2_with fail
          refine (check_ok p f.p _ HE0.out (by omega) HC.out).mono ?_
          rintro e w1 ⟨rfl, hb1⟩
          have HB1 : Hid (Below (w.heap.size + 1) (w.alloc (.cells #[sv f.p, .bool f.r, sv f.t] 46)) w1) := hb1.mono (by simp)
          obtain ⟨g0, g1, g2, hB⟩ := box_three (w := w) (hb1.mono (by simp))
          obtain ⟨b', o', e', c0, c1, c2⟩ := (HL.out.below hB).at (k := pre.length - 1) (by omega)
          cases e'
          clear hb1 hB
          generalize (pre[pre.length - 1]'(by omega)) = g at c0 c1 c2 hle
          go_wp2_with fail
          go_quiet (fail)
          go_wp2_with fail
          refine (rest.out _ (below_drewN HB1.out _)).mono ?_
          rintro e w2 ⟨rfl, hb2⟩
          have hB2 := (box_three (w := w) (more_below (below_drewN HB1.out _) rfl hb2)).2.2.2
          have s10 := (HE.out.below hB2).s10
          have HB2 : Hid (Below w.heap.size w w2) := hB2
          clear hb2 hB2
          cases hany : pre.any fun g => isIn f.p g.p with
          | true =>
            have HA : Hid ((pre.any fun g => isIn f.p g.p) = true) := hany
            clear hany
            go_wp2
            go_ret
            exact ⟨by rw [HF.out, if_pos HA.out]; rfl, HB2.out⟩
          | false =>
            have HA : Hid ((pre.any fun g => isIn f.p g.p) = false) := hany
            clear hany
            go_wp2
            go_ret
            exact ⟨by rw [HF.out, if_neg (by simp [HA.out])]; rfl, HB2.out⟩
        · have hz : pre = [] := List.length_eq_zero_iff.1 (by omega)
          subst hz
          clear hc hord
          go_enter Tryz.func28, Tryz.ntmps28
          go_wp2_with fail
          refine (check_ok p f.p _ HE0.out (by omega) HC.out).mono ?_
          rintro e w1 ⟨rfl, hb1⟩
          have HB1 : Hid (Below (w.heap.size + 1) (w.alloc (.cells #[sv f.p, .bool f.r, sv f.t] 46)) w1) := hb1.mono (by simp)
          obtain ⟨g0, g1, g2, hB⟩ := box_three (w := w) (hb1.mono (by simp))
          clear hb1 hB
          go_wp2_with fail
          go_quiet (fail)
          go_wp2_with fail
          refine (rest.out _ (below_drewN HB1.out _)).mono ?_
          rintro e w2 ⟨rfl, hb2⟩
          have hB2 := (box_three (w := w) (more_below (below_drewN HB1.out _) rfl hb2)).2.2.2
          have HB2 : Hid (Below w.heap.size w w2) := hB2
          clear hb2 hB2
          go_wp2
          go_ret
          exact ⟨by rw [HF.out]; rfl, HB2.out⟩
end Go.Proofs.YtkcjgncpcidfoaaGreatDoor
