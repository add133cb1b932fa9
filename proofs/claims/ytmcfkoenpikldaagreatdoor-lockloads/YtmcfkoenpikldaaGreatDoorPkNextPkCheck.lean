/-
  Own texts of the proof, joined by program: PkNext, PkCheck.
-/
import Derived.Test.YtmcfkoenpikldaaGreatDoorTreeMemTreeSlotsTreeErrTreeOwn
import Derived.Test.YtmcfkoenpikldaaGreatDoorTreePureTreeSortTreeFactsTreeInsertTreeAt
import Derived.Test.YtmcfkoenpikldaaGreatDoorShelf2
import Derived.StillTailTactics
/-
  Package tree's checkNext: over this seat's translation.
-/
namespace Go.Proofs.YtmcfkoenpikldaaGreatDoor
open Go.RowKit Go.Shelf

/-- Files whose paths are not too long. -/
abbrev SF := { f : F // f.p.length ≤ 40000 }

theorem packed : ∀ l : List F, (∀ g ∈ l, g.p.length ≤ 40000) → ∃ zs : List SF, zs.map (fun x => x.1) = l
  | [], _ => ⟨[], rfl⟩
  | f :: l, h => by
    obtain ⟨zs, e⟩ := packed l fun g hg => h g (List.mem_cons_of_mem _ hg)
    exact ⟨⟨f, h f List.mem_cons_self⟩ :: zs, by rw [List.map_cons, e]⟩

theorem box_three {w w' : World} {x y z : Value} {T : TypeId} (h : Below (w.heap.size + 1) (w.alloc (.cells #[x, y, z] T)) w') :
    w'.cell? ⟨w.heap.size, 0, none⟩ = some x ∧ w'.cell? ⟨w.heap.size, 1, none⟩ = some y ∧ w'.cell? ⟨w.heap.size, 2, none⟩ = some z ∧ Below w.heap.size w w' := by
  have e := h.block w.heap.size (Nat.lt_succ_self _)
  rw [heap_new] at e
  exact ⟨by simp [World.cell?, e], by simp [World.cell?, e], by simp [World.cell?, e], ((Below.refl _ _).alloc (Nat.le_refl _) _).trans (h.mono (by omega))⟩

theorem inOf (p : Nat → Addr) (f g : F) (fb : Nat) (w : World) (hE : Env p w) (h0 : w.cell? ⟨fb, 0, none⟩ = some (sv f.p)) (hf : f.p.length ≤ 40000) (hg : g.p.length ≤ 40000) :
    Calls Tryz.prog 249 #[fv g, .pointer (some ⟨fb, 0, none⟩)] w fun e w' => e = .returned (.bool (isIn f.p g.p)) ∧ Below w.heap.size w w' := by
  have HE : Hid (Env p (w.alloc (.cells #[sv g.p, .bool g.r, sv g.t] 103))) := hE.below ((Below.refl _ _).alloc (Nat.le_refl _) _)
  have h0' : (w.alloc (.cells #[sv g.p, .bool g.r, sv g.t] 103)).cell? ⟨fb, 0, none⟩ = some (sv f.p) := by
    rw [World.cell?_alloc_lt _ _ ⟨fb, 0, none⟩ (block_lt_of_cell h0)]; exact h0
  clear hE h0
  go_enter Tryz.func249, Tryz.ntmps249
  go_wp2_with fail
  refine (in_any p f.p g.p _ HE.out (by omega) (by omega)).mono ?_
  rintro e w1 ⟨rfl, hb1⟩
  go_wp2
  go_ret
  exact ⟨rfl, ((Below.refl _ w).alloc (Nat.le_refl _) _).trans (hb1.mono (by simp))⟩

theorem contains_any (p : Nat → Addr) (pre : List F) (f : F) (fb b o ca : Nat) (w : World) (hE : Env p w) (hb : b < w.heap.size) (hl : LiesAt w (some ⟨b, o, none⟩) pre) (hn : pre.length ≤ 100000) (hs : ∀ g ∈ pre, g.p.length ≤ 40000)
    (h0 : w.cell? ⟨fb, 0, none⟩ = some (sv f.p)) (hf : f.p.length ≤ 40000) :
    Calls Tryz.prog 248 #[.slice (some ⟨b, o, none⟩) pre.length ca, .func (.func 249) #[] #[.pointer (some ⟨fb, 0, none⟩)]] w fun e w' => e = .returned (.bool (pre.any fun g => isIn f.p g.p)) ∧ Below w.heap.size w w' := by
  haveI : Inhabited SF := ⟨⟨⟨[], false, []⟩, by simp⟩⟩
  obtain ⟨zs, hzs⟩ := packed pre hs
  have hlen : zs.length = pre.length := by rw [← hzs, List.length_map]
  have hat : ∀ j (h : j < zs.length), (zs[j]!).1 = pre[j]'(by omega) := fun j hj => by
    subst hzs
    rw [getElem!_pos zs j hj]
    simp
  have hp : PredBelow Tryz.prog 249 #[.pointer (some ⟨fb, 0, none⟩)] (fun x : SF => .agg (fcells x.1).toArray) (fun x => isIn f.p x.1.p) w := fun W x hW => by
    refine (inOf p f x.1 fb W (hE.below hW) ((hW.cell (p := ⟨fb, 0, none⟩) (block_lt_of_cell h0)).trans h0) hf x.2).mono ?_
    rintro e w' ⟨rfl, hb'⟩
    exact ⟨rfl, hW.trans (hb'.mono hW.size)⟩
  have := AnyQ.slices_ContainsFunc Tryz.laysContains 3 Tryz.isAgg103 Tryz.sizeOf103 (fun x : SF => fcells x.1) (fun _ => rfl) (fun x => isIn f.p x.1.p) 249 #[.pointer (some ⟨fb, 0, none⟩)]
    (enters_of Tryz.func249 (by kernel_rfl) rfl) b o pre.length ca zs w hp (by omega) (by omega) hb (fun j hj i v hi => by
      obtain ⟨b', o', e', c0, c1, c2⟩ := hl.at (k := j) (by omega)
      cases e'
      rw [hat j hj] at hi
      rcases i with _ | _ | _ | i
      · simp [fcells] at hi; subst hi; simpa using c0
      · simp [fcells] at hi; subst hi; simpa using c1
      · simp [fcells] at hi; subst hi; simpa using c2
      · simp [fcells] at hi)
  refine this.mono ?_
  rintro e w' ⟨rfl, hb'⟩
  refine ⟨?_, hb'⟩
  rw [← hlen, List.take_length, ← hzs, List.any_map]
  rfl

set_option maxRecDepth 100000 in
set_option maxHeartbeats 4000000 in
theorem next_any (p : Nat → Addr) (pre : List F) (f : F) (b o ca : Nat) (w : World) (hE : Env p w) (hb : b < w.heap.size) (hl : LiesAt w (some ⟨b, o, none⟩) pre) (hn : pre.length ≤ 100000) (hs : ∀ g ∈ pre, g.p.length ≤ 40000) (hf : f.p.length ≤ 40000) (ht : f.t.length ≤ 500000) :
    Calls Tryz.prog 212 #[.slice (some ⟨b, o, none⟩) pre.length ca, fv f] w fun e w' => e = .returned (errV p (fileCode pre f)) ∧ Below w.heap.size w w' := by
  have HE : Hid (Env p w) := hE
  have HE0 : Hid (Env p (w.alloc (.cells #[sv f.p, .bool f.r, sv f.t] 103))) := hE.below ((Below.refl _ _).alloc (Nat.le_refl _) _)
  have HL : Hid (LiesAt w (some ⟨b, o, none⟩) pre) := hl
  have HS : Hid (∀ g ∈ pre, g.p.length ≤ 40000) := hs
  clear hE hl hs
  cases hc : checkCode f.p with
  | succ k =>
    have HF : Hid (fileCode pre f = k + 1) := by
      show fileCode pre f = k + 1
      unfold fileCode
      rw [if_pos (by omega), hc]
    have HC : Hid (checkCode f.p = k + 1) := hc
    clear hc
    go_enter Tryz.func212, Tryz.ntmps212
    go_wp2_with fail
    refine (check_bad p f.p k _ HE0.out (by omega) HC.out).mono ?_
    rintro e w1 ⟨rfl, hb1⟩
    go_wp2
    go_ret
    exact ⟨by rw [HF.out]; rfl, ((Below.refl _ w).alloc (Nat.le_refl _) _).trans (hb1.mono (by simp))⟩
  | zero =>
    have HC : Hid (checkCode f.p = 0) := hc
    by_cases hbig : 4000 < f.t.length
    · have HF : Hid (fileCode pre f = 2) := by
        show fileCode pre f = 2
        unfold fileCode
        rw [if_neg (by omega), if_pos hbig]
      have hbig' : (4000 : Int) < (f.t.length : Int) := by omega
      clear hc
      go_enter Tryz.func212, Tryz.ntmps212
      go_wp2_with fail
      refine (check_ok p f.p _ HE0.out (by omega) HC.out).mono ?_
      rintro e w1 ⟨rfl, hb1⟩
      obtain ⟨g0, g1, g2, hB⟩ := box_three (w := w) (hb1.mono (by simp))
      have s1 := (HE.out.below hB).s1
      have HB : Hid (Below w.heap.size w w1) := hB
      clear hb1 hB
      go_wp2
      go_ret
      exact ⟨by rw [HF.out]; rfl, HB.out⟩
    · have hbig' : ¬ (4000 : Int) < (f.t.length : Int) := by omega
      -- what comes behind the order's test
      have rest : Hid (∀ w1, Below (w.heap.size + 1) (w.alloc (.cells #[sv f.p, .bool f.r, sv f.t] 103)) w1 → Calls Tryz.prog 248 #[.slice (some ⟨b, o, none⟩) pre.length ca, .func (.func 249) #[] #[.pointer (some ⟨w.heap.size, 0, none⟩)]] w1 fun e w' => e = .returned (.bool (pre.any fun g => isIn f.p g.p)) ∧ Below w1.heap.size w1 w') := fun w1 h1 => by
        obtain ⟨g0, _, _, hB⟩ := box_three h1
        exact contains_any p pre f w.heap.size b o ca w1 (HE.out.below hB) (Nat.lt_of_lt_of_le hb hB.size) (HL.out.below hB) hn HS.out g0 hf
      by_cases hord : pre ≠ [] ∧ less ((pre.getLast?.map (·.p)).getD []) f.p = false
      · have HF : Hid (fileCode pre f = 9) := by
          show fileCode pre f = 9
          unfold fileCode
          rw [if_neg (by omega), if_neg hbig, if_pos hord]
        have hpos : 0 < pre.length := List.length_pos_iff.2 hord.1
        have hlast : (pre.getLast?.map (·.p)).getD [] = (pre[pre.length - 1]'(by omega)).p := by
          rw [List.getLast?_eq_getElem?, List.getElem?_eq_getElem (by omega)]; rfl
        have ho := hord.2
        rw [hlast] at ho
        have hle : (Op.bytesLess f.p (pre[pre.length - 1]'(by omega)).p || f.p == (pre[pre.length - 1]'(by omega)).p) = true := by
          cases h : Op.bytesLess f.p (pre[pre.length - 1]'(by omega)).p with
          | true => rfl
          | false => simp [less_total h ho]
        have hpos' : (0 : Int) < (pre.length : Int) := by omega
        have hsub : ((pre.length : Int) - 1) = ((pre.length - 1 : Nat) : Int) := by omega
        clear hc hord hlast ho rest
        go_enter Tryz.func212, Tryz.ntmps212
        go_wp2_with fail
        refine (check_ok p f.p _ HE0.out (by omega) HC.out).mono ?_
        rintro e w1 ⟨rfl, hb1⟩
        obtain ⟨g0, g1, g2, hB⟩ := box_three (w := w) (hb1.mono (by simp))
        have s8 := (HE.out.below hB).s8
        obtain ⟨b', o', e', c0, c1, c2⟩ := (HL.out.below hB).at (k := pre.length - 1) (by omega)
        cases e'
        have HB : Hid (Below w.heap.size w w1) := hB
        clear hb1 hB
        generalize (pre[pre.length - 1]'(by omega)) = g at c0 c1 c2 hle
        go_wp2_with fail
        go_quiet (fail)
        go_wp2
        go_ret
        exact ⟨by rw [HF.out]; rfl, below_drewN HB.out _⟩
      · have HF : Hid (fileCode pre f = if pre.any (fun g => isIn f.p g.p) then 11 else 0) := by
          show fileCode pre f = _
          unfold fileCode
          rw [if_neg (by omega), if_neg hbig, if_neg hord]
        by_cases hpos : 0 < pre.length
        · have hne : pre ≠ [] := List.length_pos_iff.1 hpos
          have hlast : (pre.getLast?.map (·.p)).getD [] = (pre[pre.length - 1]'(by omega)).p := by
            rw [List.getLast?_eq_getElem?, List.getElem?_eq_getElem (by omega)]; rfl
          have ho : less (pre[pre.length - 1]'(by omega)).p f.p = true := by
            rw [← hlast]
            cases h : less ((pre.getLast?.map (·.p)).getD []) f.p with
            | true => rfl
            | false => exact absurd ⟨hne, h⟩ hord
          have hle : (Op.bytesLess f.p (pre[pre.length - 1]'(by omega)).p || f.p == (pre[pre.length - 1]'(by omega)).p) = false := by
            have h1 := less_asymm ho
            have h2 := less_ne ho
            simp only [less] at h1
            simp [h1, Ne.symm h2]
          have hpos' : (0 : Int) < (pre.length : Int) := by omega
          have hsub : ((pre.length : Int) - 1) = ((pre.length - 1 : Nat) : Int) := by omega
          clear hc hord hlast ho hne
          go_enter Tryz.func212, Tryz.ntmps212
          go_wp2_with fail
          refine (check_ok p f.p _ HE0.out (by omega) HC.out).mono ?_
          rintro e w1 ⟨rfl, hb1⟩
          have HB1 : Hid (Below (w.heap.size + 1) (w.alloc (.cells #[sv f.p, .bool f.r, sv f.t] 103)) w1) := hb1.mono (by simp)
          obtain ⟨g0, g1, g2, hB⟩ := box_three (w := w) (hb1.mono (by simp))
          obtain ⟨b', o', e', c0, c1, c2⟩ := (HL.out.below hB).at (k := pre.length - 1) (by omega)
          cases e'
          clear hb1 hB
          generalize (pre[pre.length - 1]'(by omega)) = g at c0 c1 c2 hle
          go_wp2_with fail
          go_quiet (fail)
          go_wp2_with fail
          refine (rest.out _ (below_drewN HB1.out _)).mono ?_
          rintro e w2 ⟨rfl, hb2⟩
          have hB2 := (box_three (w := w) (more_below (below_drewN HB1.out _) rfl hb2)).2.2.2
          have s10 := (HE.out.below hB2).s10
          have HB2 : Hid (Below w.heap.size w w2) := hB2
          clear hb2 hB2
          cases hany : pre.any fun g => isIn f.p g.p with
          | true =>
            have HA : Hid ((pre.any fun g => isIn f.p g.p) = true) := hany
            clear hany
            go_wp2
            go_ret
            exact ⟨by rw [HF.out, if_pos HA.out]; rfl, HB2.out⟩
          | false =>
            have HA : Hid ((pre.any fun g => isIn f.p g.p) = false) := hany
            clear hany
            go_wp2
            go_ret
            exact ⟨by rw [HF.out, if_neg (by simp [HA.out])]; rfl, HB2.out⟩
        · have hz : pre = [] := List.length_eq_zero_iff.1 (by omega)
          subst hz
          clear hc hord
          go_enter Tryz.func212, Tryz.ntmps212
          go_wp2_with fail
          refine (check_ok p f.p _ HE0.out (by omega) HC.out).mono ?_
          rintro e w1 ⟨rfl, hb1⟩
          have HB1 : Hid (Below (w.heap.size + 1) (w.alloc (.cells #[sv f.p, .bool f.r, sv f.t] 103)) w1) := hb1.mono (by simp)
          obtain ⟨g0, g1, g2, hB⟩ := box_three (w := w) (hb1.mono (by simp))
          clear hb1 hB
          go_wp2_with fail
          go_quiet (fail)
          go_wp2_with fail
          refine (rest.out _ (below_drewN HB1.out _)).mono ?_
          rintro e w2 ⟨rfl, hb2⟩
          have hB2 := (box_three (w := w) (more_below (below_drewN HB1.out _) rfl hb2)).2.2.2
          have HB2 : Hid (Below w.heap.size w w2) := hB2
          clear hb2 hB2
          go_wp2
          go_ret
          exact ⟨by rw [HF.out]; rfl, HB2.out⟩
end Go.Proofs.YtmcfkoenpikldaaGreatDoor
/-
  Package tree's Check tells of every list of files what the plain function tells: over this seat's translation.
-/
namespace Go.Proofs.YtmcfkoenpikldaaGreatDoor
open Go.RowKit Go.Shelf

theorem next_ok (p : Nat → Addr) (pre : List F) (f : F) (b o n ca : Nat) (w : World) (hn' : pre.length = n) (hE : Env p w) (hb : b < w.heap.size) (hl : LiesAt w (some ⟨b, o, none⟩) pre) (hn : pre.length ≤ 100000) (hs : ∀ g ∈ pre, g.p.length ≤ 40000) (hf : f.p.length ≤ 40000) (ht : f.t.length ≤ 500000) (h : fileCode pre f = 0) :
    Calls Tryz.prog 212 #[.slice (some ⟨b, o, none⟩) n ca, fv f] w fun e w' => e = .returned .nilIface ∧ Below w.heap.size w w' := by
  have := next_any p pre f b o ca w hE hb hl hn hs hf ht
  rwa [h, hn'] at this
theorem next_bad (p : Nat → Addr) (pre : List F) (f : F) (b o n ca k : Nat) (w : World) (hn' : pre.length = n) (hE : Env p w) (hb : b < w.heap.size) (hl : LiesAt w (some ⟨b, o, none⟩) pre) (hn : pre.length ≤ 100000) (hs : ∀ g ∈ pre, g.p.length ≤ 40000) (hf : f.p.length ≤ 40000) (ht : f.t.length ≤ 500000) (h : fileCode pre f = k + 1) :
    Calls Tryz.prog 212 #[.slice (some ⟨b, o, none⟩) n ca, fv f] w fun e w' => e = .returned (.iface 379 (.pointer (some (p k)))) ∧ Below w.heap.size w w' := by
  have := next_any p pre f b o ca w hE hb hl hn hs hf ht
  rwa [h, hn'] at this

theorem LiesAt.take {w : World} {a : Option Addr} {l : List F} (h : LiesAt w a l) (k : Nat) : LiesAt w a (l.take k) := fun hne => by
  have hl : l ≠ [] := fun e => hne (by rw [e]; simp)
  obtain ⟨b, o, e, hc⟩ := h hl
  refine ⟨b, o, e, fun j hj => ?_⟩
  rw [List.getElem_take]
  exact hc j (by rw [List.length_take] at hj; omega)

theorem pair_cells {w w' : World} {x y : Value} {T : TypeId} (h : Below (w.heap.size + 1) (w.alloc (.cells #[x, y] T)) w') :
    w'.cell? ⟨w.heap.size, 0, none⟩ = some x ∧ w'.cell? ⟨w.heap.size, 0 + 1, none⟩ = some y := by
  have := slot_two h
  exact ⟨this.1, this.2.1⟩

set_option maxRecDepth 100000 in
set_option maxHeartbeats 4000000 in
theorem checkTree_any (p : Nat → Addr) (l : List F) (a : Option Addr) (ca : Nat) (w : World) (hE : Env p w) (hl : LiesAt w a l) (hca : l.length ≤ ca) (hs : Small l) :
    Calls Tryz.prog 159 #[.slice a l.length ca] w fun e w' => (∃ v, e = .returned v ∧ ErrAt p w' v (treeFault l).1 (treeFault l).2) ∧ Below w.heap.size w w' := by
  have hfew := hs.few
  have HE : Hid (Env p w) := hE
  by_cases hlong : 30 < l.length
  · have HT : Hid (treeFault l = (8, -1)) := treeFault_long hlong
    have h30 : (30 : Int) < (l.length : Int) := by omega
    have s7 := hE.s7
    clear hl hE
    go_enter Tryz.func159, Tryz.ntmps159
    go_wp2
    go_ret
    exact ⟨⟨_, rfl, by rw [HT.out]; exact .inr (.inl ⟨7, rfl, by omega, rfl, rfl⟩)⟩, Below.refl _ _⟩
  · have h30 : ¬ (30 : Int) < (l.length : Int) := by omega
    have HL : Hid (LiesAt w a l) := hl
    have HPATH : Hid (∀ f ∈ l, f.p.length ≤ 40000) := hs.path
    have HTEXT : Hid (∀ f ∈ l, f.t.length ≤ 500000) := hs.text
    clear hl hs hE
    go_enter Tryz.func159, Tryz.ntmps159
    go_wp2_with fail
    have hmx : Tryz.prog.follows .mixedOrders = true := by kernel_rfl
    go_loopw [3, 13] (fun al i wr => ∃ q : Nat, q ≤ l.length ∧ i = .int .i64 q ∧ al = .int .i64 (total (l.take q)) ∧ (∀ j (h : j < l.length), j < q → fileCode (l.take j) l[j] = 0) ∧ Below w.heap.size w wr) (fun _ i _ => l.length - (intOf i).toNat)
    case atStart => exact ⟨0, by omega, rfl, by simp [total], fun _ _ h => by omega, Below.refl _ _⟩
    case round =>
      obtain ⟨q, hq, rfl, rfl, hz, hb⟩ := hrel
      have HB : Hid (Below w.heap.size w wr) := hb
      have HZ : Hid (∀ j (h : j < l.length), j < q → fileCode (l.take j) l[j] = 0) := hz
      clear hb hz
      by_cases hlt : q < l.length
      · have hlt' : (q : Int) < (l.length : Int) := by omega
        obtain ⟨b, o, rfl, c0, c1, c2⟩ := (HL.out.below HB.out).at hlt
        have hbw : b < wr.heap.size := block_lt_of_cell c0
        have hpl := HPATH.out _ (List.getElem_mem hlt)
        have htl := HTEXT.out _ (List.getElem_mem hlt)
        have hq0 : (0 : Int) ≤ (q : Int) := by omega
        have hqc : (q : Int) ≤ (ca : Int) := by omega
        have HTK : Hid ((l.take q).length = q) := by show (l.take q).length = q; rw [List.length_take]; omega
        have HPT : Hid (∀ g ∈ l.take q, g.p.length ≤ 40000) := fun g hg => HPATH.out g (List.mem_of_mem_take hg)
        cases hc : fileCode (l.take q) l[q] with
        | succ k =>
          have HF : Hid (treeFault l = (k + 1, (q : Int))) := by
            have := treeFault_at (l := l) (by omega) hlt HZ.out (by rw [hc]; simp)
            rwa [hc] at this
          have HC : Hid (fileCode (l.take q) l[q] = k + 1) := hc
          have hk13 : k < 13 := by have := fileCode_le (l.take q) l[q]; omega
          clear hc
          generalize l[q] = f at c0 c1 c2 hpl htl HC
          go_wp2_with fail
          obtain ⟨W, hW⟩ : ∃ W, W = wr.alloc (.cells #[.string ⟨f.p.toArray⟩, .bool f.r, .string ⟨f.t.toArray⟩] 103) := ⟨_, rfl⟩
          obtain ⟨g0, g1, g2, hBW⟩ := box_three (w := wr) (w' := W) (x := .string ⟨f.p.toArray⟩) (y := .bool f.r) (z := .string ⟨f.t.toArray⟩) (T := 103) (by rw [hW]; exact Below.refl _ _)
          have hsz : W.heap.size = wr.heap.size + 1 := by rw [hW, World.size_alloc]
          rw [← hW]
          have HWB : Hid (Below wr.heap.size wr W) := hBW
          clear hBW hW
          go_still_tail 4, hmx
          go_wp2_with fail
          have hB0 : Below w.heap.size w W.drew := (HB.out.trans (HWB.out.mono HB.out.size)).drew
          refine (next_bad p (l.take q) f b o q ca k _ HTK.out (HE.out.below hB0) (by show b < W.heap.size; omega) ((HL.out.below hB0).take q) (by rw [HTK.out]; omega) HPT.out hpl htl HC.out).mono ?_
          rintro e w2 ⟨rfl, hb2⟩
          have HB2 : Hid (Below w.heap.size w w2) := hB0.trans (hb2.mono hB0.size)
          clear hb2 hB0
          go_wp2
          go_ret
          have hpc := pair_cells (w := w2) (x := .int .i64 q) (y := .iface 379 (.pointer (some (p k)))) (T := 144) (Below.refl _ _)
          exact ⟨⟨_, rfl, by rw [HF.out]; exact .inr (.inr ⟨k, _, _, rfl, hk13, rfl, hpc.1, hpc.2⟩)⟩, HB2.out.alloc HB2.out.size _⟩
        | zero =>
          have HN : Hid (∀ j (h : j < l.length), j < q + 1 → fileCode (l.take j) l[j] = 0) := by
            intro j hj hjq
            by_cases e : j = q
            · subst e; exact hc
            · exact HZ.out j hj (by omega)
          have HC : Hid (fileCode (l.take q) l[q] = 0) := hc
          have HSUM : Hid (total (l.take (q + 1)) = total (l.take q) + l[q].t.length) := total_succ hlt
          have HTT := total_take HTEXT.out q
          clear hc
          generalize l[q] = f at c0 c1 c2 hpl htl HC HSUM
          go_wp2_with fail
          obtain ⟨W, hW⟩ : ∃ W, W = wr.alloc (.cells #[.string ⟨f.p.toArray⟩, .bool f.r, .string ⟨f.t.toArray⟩] 103) := ⟨_, rfl⟩
          obtain ⟨g0, g1, g2, hBW⟩ := box_three (w := wr) (w' := W) (x := .string ⟨f.p.toArray⟩) (y := .bool f.r) (z := .string ⟨f.t.toArray⟩) (T := 103) (by rw [hW]; exact Below.refl _ _)
          have hsz : W.heap.size = wr.heap.size + 1 := by rw [hW, World.size_alloc]
          rw [← hW]
          have HWB : Hid (Below wr.heap.size wr W) := hBW
          clear hBW hW
          go_still_tail 4, hmx
          go_wp2_with fail
          have hB0 : Below w.heap.size w W.drew := (HB.out.trans (HWB.out.mono HB.out.size)).drew
          refine (next_ok p (l.take q) f b o q ca _ HTK.out (HE.out.below hB0) (by show b < W.heap.size; omega) ((HL.out.below hB0).take q) (by rw [HTK.out]; omega) HPT.out hpl htl HC.out).mono ?_
          rintro e w2 ⟨rfl, hb2⟩
          have k2 : w2.cell? ⟨wr.heap.size, 2, none⟩ = some (sv f.t) := (hb2.cell (p := ⟨wr.heap.size, 2, none⟩) (by show wr.heap.size < W.heap.size; omega)).trans g2
          have HB2 : Hid (Below w.heap.size w w2) := hB0.trans (hb2.mono hB0.size)
          clear hb2 hB0 g0 g1 g2
          go_wp2
          go_roundw
          case rel => exact ⟨q + 1, by omega, by go_num, by rw [HSUM.out]; go_num, HN.out, HB2.out⟩
          case measure => simp [intOf]; omega
      · obtain rfl : q = l.length := by omega
        have hall : ∀ j (h : j < l.length), fileCode (l.take j) l[j] = 0 := fun j hj => HZ.out j hj hj
        have HEnd := treeFault_end (l := l) (by omega) hall
        have htk := total_take HTEXT.out l.length
        rw [List.take_length] at htk ⊢
        clear hall
        by_cases hbig : 12000 < total l
        · rw [if_pos hbig] at HEnd
          have HF : Hid (treeFault l = (2, -1)) := HEnd
          have hbig' : (12000 : Int) < (total l : Int) := by omega
          have s1 := (HE.out.below HB.out).s1
          clear HEnd
          go_wp2
          go_ret
          exact ⟨⟨_, rfl, by rw [HF.out]; exact .inr (.inl ⟨1, rfl, by omega, rfl, rfl⟩)⟩, HB.out⟩
        · rw [if_neg hbig] at HEnd
          have HF : Hid (treeFault l = (0, -1)) := HEnd
          have hbig' : ¬ (12000 : Int) < (total l : Int) := by omega
          clear HEnd
          go_wp2
          go_ret
          exact ⟨⟨_, rfl, by rw [HF.out]; exact .inl ⟨rfl, rfl, rfl⟩⟩, HB.out⟩
end Go.Proofs.YtmcfkoenpikldaaGreatDoor
