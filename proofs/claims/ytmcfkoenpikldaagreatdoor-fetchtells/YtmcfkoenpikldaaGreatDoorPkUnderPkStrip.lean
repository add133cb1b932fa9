/-
  Own texts of the proof, joined by program: PkUnder, PkStrip.
-/
import Derived.Test.YtmcfkoenpikldaaGreatDoorPkClonePkFindPkSortFnPkSort
import Derived.Test.YtmcfkoenpikldaaGreatDoorTreePureTreeSortTreeFactsTreeInsertTreeAt
import Derived.Test.YtmcfkoenpikldaaGreatDoorRefCutPartsRefRefBeginsRefMore
import Derived.Laws.OwnMore
/-
  Package tree's Under: over this seat's translation.
-/
namespace Go.Proofs.YtmcfkoenpikldaaGreatDoor
open Go.RowKit Go.Shelf

theorem underL_take {l : List F} {k : Nat} (dir : List UInt8) (hk : k < l.length) : underL (l.take (k + 1)) dir = underL (l.take k) dir ++ (if isIn l[k].p dir = true then [cutF dir l[k]] else []) := by
  rw [List.take_succ_eq_append_getElem hk]
  unfold underL
  rw [List.filter_append, List.map_append]
  by_cases h : isIn l[k].p dir = true
  · rw [if_pos h, List.filter_cons, if_pos h]; rfl
  · rw [if_neg h, List.filter_cons, if_neg h]; rfl

theorem cut_path {f : F} {dir : List UInt8} (h : isIn f.p dir = true) : Lib.trimPrefix f.p (dir ++ [47]) = (cutF dir f).p := by
  simp only [isIn, Bool.and_eq_true, Bool.or_eq_true, decide_eq_true_eq] at h
  by_cases hd : dir = []
  · subst hd
    have hh := (clean_self h.1).1
    have : Lib.hasPrefix f.p [47] = false := by
      cases hp : Lib.hasPrefix f.p [47] with
      | false => rfl
      | true =>
        have hp' : [47] <+: f.p := by simpa [Lib.hasPrefix] using hp
        obtain ⟨t, ht⟩ := hp'
        rw [← ht] at hh
        simp at hh
    simp [Lib.trimPrefix, cutF, this]
  · have hp : Lib.hasPrefix f.p (dir ++ [47]) = true := by
      rcases h.2 with h' | h'
      · exact absurd (List.isEmpty_iff.1 h') hd
      · exact h'
    simp [Lib.trimPrefix, cutF, hd, hp]

theorem trimL (s q : List UInt8) (w : World) : Calls Tryz.prog 221 #[.string ⟨s.toArray⟩, .string ⟨q.toArray⟩] w fun e w' => e = .returned (.string ⟨(Lib.trimPrefix s q).toArray⟩) ∧ w' = w := Tryz.strings_TrimPrefix ⟨s.toArray⟩ ⟨q.toArray⟩ w

theorem trim_is (f : F) (dir : List UInt8) (w : World) (h : isIn f.p dir = true) :
    Calls Tryz.prog 221 #[.string ⟨f.p.toArray⟩, .string (({ data := dir.toArray } : ByteArray) ++ { data := #[47] })] w fun e w' => e = .returned (.string ⟨(cutF dir f).p.toArray⟩) ∧ w' = w := by
  rw [show ({ data := dir.toArray } : ByteArray) ++ { data := #[47] } = ⟨(dir ++ [47]).toArray⟩ from by
    rw [show ({ data := #[47] } : ByteArray) = ⟨[47].toArray⟩ from rfl, cat_list]]
  have := trimL f.p (dir ++ [47]) w
  rwa [cut_path h] at this

theorem box_set {W : World} {b : Nat} {x y z : Value} (u : Value) (g0 : W.cell? ⟨b, 0, none⟩ = some x) (g1 : W.cell? ⟨b, 1, none⟩ = some y) (g2 : W.cell? ⟨b, 2, none⟩ = some z) :
    (W.setCell ⟨b, 0, none⟩ u).cell? ⟨b, 0, none⟩ = some u ∧ (W.setCell ⟨b, 0, none⟩ u).cell? ⟨b, 1, none⟩ = some y ∧ (W.setCell ⟨b, 0, none⟩ u).cell? ⟨b, 2, none⟩ = some z := by
  refine ⟨World.cell?_setCell_same' _ _ _ (by rw [g0]; rfl), ?_, ?_⟩
  · rw [World.cell?_setCell_other (h := by simp), g1]
  · rw [World.cell?_setCell_other (h := by simp), g2]

theorem box_frozen {w w' : World} {x y z : Value} {T : TypeId} (h : Below (w.heap.size + 1) (w.alloc (.cells #[x, y, z] T)) w') (j : Nat) : w'.frozen? ⟨w.heap.size, j, none⟩ = false := by
  have e := h.block w.heap.size (Nat.lt_succ_self _)
  rw [heap_new] at e
  simp [World.frozen?, e]

/-- A row of the call's own, behind a store into a later block. -/
theorem owns_later {w w1 : World} {base b j : Nat} {e : TypeId} {size : Nat} {v : Value} {n : Nat} {xs : List Value} (u : Value) (h : w.ownsRow base e size v n xs) (hb : Below w.heap.size w w1) (hbb : w.heap.size ≤ b) : (w1.setCell ⟨b, j, none⟩ u).ownsRow base e size v n xs :=
  owns_keep h fun g _ hg => (Below.heap_setCell _ _ _ _ (by show g ≠ b; omega)).trans (hb.block g hg)

theorem three_new (W : World) (x y z : Value) (T : TypeId) (n : Nat) (hn : n = W.heap.size) : ∀ j u, [x, y, z][j]? = some u → (W.alloc (.cells #[x, y, z] T)).cell? ((⟨n, 0, none⟩ : Addr).add j) = some u := by
  subst hn
  intro j u h
  have hn := heap_new W (.cells #[x, y, z] T)
  have hc : ∀ k, (W.alloc (.cells #[x, y, z] T)).cell? ⟨W.heap.size, k, none⟩ = #[x, y, z][k]? := fun k => by
    unfold World.cell?
    rw [hn]
    rfl
  rcases j with _ | _ | _ | j
  · exact (hc 0).trans h
  · exact (hc (0 + 1)).trans h
  · exact (hc (0 + 2)).trans h
  · simp at h

set_option maxRecDepth 100000 in
set_option maxHeartbeats 4000000 in
theorem under_new (p : Nat → Addr) (l : List F) (a : Option Addr) (ca : Nat) (dir : List UInt8) (w : World) (hE : Env p w) (hl : LiesAt w a l) (hca : l.length ≤ ca) (hs : Small l) (hd : dir.length ≤ 40000) :
    Calls Tryz.prog 165 #[.slice a l.length ca, .string ⟨dir.toArray⟩] w fun e w' => ToldN p w.heap.size w' e (underT l dir) ∧ Below w.heap.size w w' := by
  have hfew := hs.few
  have HE : Hid (Env p w) := hE
  have HL : Hid (LiesAt w a l) := hl
  have HS : Hid (Small l) := hs
  clear hE hl hs
  by_cases hc : (treeFault l).1 = 0
  · have HT : Hid (underT l dir = (underL l dir, 0, -1)) := by show underT l dir = _; simp [underT, hc]
    have HF : Hid (treeFault l = (0, -1)) := treeFault_zero hc
    clear hc
    obtain ⟨i0, hi, hz0, hz1, hz2⟩ := info_parts Tryz.infoFile
    go_enter Tryz.func165, Tryz.ntmps165
    go_wp2_with fail
    refine (checkTree_any p l a ca _ HE.out HL.out hca HS.out).mono ?_
    rintro e w0 ⟨⟨v, rfl, hv⟩, hb0⟩
    rw [HF.out] at hv
    have := hv.isNil
    subst this
    have HB0 : Hid (Below w.heap.size w w0) := hb0
    clear hv hb0
    go_wp2_with fail
    go_loopw [7, 17] (fun out i wr => ∃ k : Nat, k ≤ l.length ∧ i = .int .i64 k ∧ wr.ownsRow w.heap.size 103 3 out (underL (l.take k) dir).length (lcells (underL (l.take k) dir)) ∧ Below w.heap.size w wr) (fun _ i _ => l.length - (intOf i).toNat)
    case atStart => exact ⟨0, by omega, rfl, World.ownsRow_nil _ _ _ _, HB0.out⟩
    case round =>
      obtain ⟨k, hk, rfl, hrow, hb⟩ := hrel
      have HB : Hid (Below w.heap.size w wr) := hb
      have HROW : Hid (wr.ownsRow w.heap.size 103 3 _ (underL (l.take k) dir).length (lcells (underL (l.take k) dir))) := hrow
      clear hb hrow
      have hwl : (underL (l.take k) dir).length ≤ k := by
        unfold underL
        rw [List.length_map]
        refine Nat.le_trans (List.length_filter_le _ _) ?_
        simp; omega
      by_cases hlt : k < l.length
      · have hlt' : (k : Int) < (l.length : Int) := by omega
        obtain ⟨b, o, rfl, c0, c1, c2⟩ := (HL.out.below HB.out).at hlt
        have hpl := HS.out.path _ (List.getElem_mem hlt)
        have hB0 : Below w.heap.size w (wr.alloc (.cells #[sv l[k].p, .bool l[k].r, sv l[k].t] 103)) := HB.out.alloc HB.out.size _
        have HEW : Hid (Env p (wr.alloc (.cells #[sv l[k].p, .bool l[k].r, sv l[k].t] 103))) := HE.out.below hB0
        clear hB0
        cases hin : isIn l[k].p dir with
        | false =>
          have HW : Hid (underL (l.take (k + 1)) dir = underL (l.take k) dir) := by
            show underL _ _ = underL _ _
            rw [underL_take dir hlt, if_neg (by simp [hin]), List.append_nil]
          have HI : Hid (isIn l[k].p dir = false) := hin
          clear hin
          generalize l[k] = f at c0 c1 c2 hpl HI HEW
          go_wp2_with fail
          refine (in_any p f.p dir _ HEW.out (by omega) (by omega)).mono ?_
          rintro e w1 ⟨rfl, hb1⟩
          rw [HI.out]
          have hB1 : Below wr.heap.size wr w1 := ((Below.refl _ wr).alloc (Nat.le_refl _) _).trans (hb1.mono (by simp))
          have HR1 : Hid (w1.ownsRow w.heap.size 103 3 _ (underL (l.take k) dir).length (lcells (underL (l.take k) dir))) := owns_below HROW.out hB1
          have HB1 : Hid (Below w.heap.size w w1) := HB.out.trans (hB1.mono HB.out.size)
          clear hb1 hB1
          go_wp2
          go_roundw
          case rel => exact ⟨k + 1, by omega, by go_num, by rw [HW.out]; exact HR1.out, HB1.out⟩
          case measure => simp [intOf]; omega
        | true =>
          have HW : Hid (underL (l.take (k + 1)) dir = underL (l.take k) dir ++ [cutF dir l[k]]) := by
            show underL _ _ = _
            rw [underL_take dir hlt, if_pos hin]
          have HI : Hid (isIn l[k].p dir = true) := hin
          have hcr : cutF dir l[k] = ⟨(cutF dir l[k]).p, l[k].r, l[k].t⟩ := by unfold cutF; split <;> rfl
          have HCR : Hid (cutF dir l[k] = ⟨(cutF dir l[k]).p, l[k].r, l[k].t⟩) := hcr
          clear hin hcr
          generalize l[k] = f at c0 c1 c2 hpl HI HW HCR HEW
          go_wp2_with fail
          refine (in_any p f.p dir _ HEW.out (by omega) (by omega)).mono ?_
          rintro e w1 ⟨rfl, hb1⟩
          rw [HI.out]
          have hbx : Below (wr.heap.size + 1) (wr.alloc (.cells #[sv f.p, .bool f.r, sv f.t] 103)) w1 := hb1.mono (by simp)
          obtain ⟨g0, g1, g2, hB1⟩ := box_three hbx
          have gf := box_frozen hbx
          have hsz1 : wr.heap.size + 1 ≤ w1.heap.size := by have := hb1.size; simpa using this
          have hrow2 := owns_later (j := 0) (sv (cutF dir f).p) HROW.out hB1 (Nat.le_refl _)
          have HB1 : Hid (Below w.heap.size w w1) := HB.out.trans (hB1.mono HB.out.size)
          have hswr := HB.out.size
          clear hb1 hbx hB1
          obtain ⟨j0, j1, j2⟩ := box_set (sv (cutF dir f).p) g0 g1 g2
          go_wp2_with fail
          refine (trim_is f dir _ HI.out).mono ?_
          rintro e w1' ⟨rfl, rfl⟩
          go_wp2_with (at_builtin; refine wpList_append_own _ rfl _ _ 43 rfl w.heap.size 103 i0 (.agg #[.string ⟨#[]⟩, .bool false, .string ⟨#[]⟩]) 3 40 Tryz.underlying43 hi hz0 hz1 hz2 rfl (by decide) _ _ _ rfl (hrow2.alloc _) ⟨w1'.heap.size, 0, none⟩ 1 1 [sv (cutF dir f).p, .bool f.r, sv f.t] rfl rfl (three_new _ _ _ _ _ _ (by simp)) (by simp [Value.oneCell']) (by unfold maxLen; omega) (by omega) (by simp; omega) ?_; intro v' w2 hown' hgrow _)
          have HB2 : Below w.heap.size w w2 := ((HB1.out.setCell (p := ⟨wr.heap.size, 0, none⟩) hswr _).alloc (by simp; omega) _).grown hgrow (by simp; omega) (fun j ej => (hrow2.lt j ej).1)
          refine ⟨⟨k + 1, by omega, by go_num, ?_, HB2⟩, by simp [intOf]; omega⟩
          rw [HW.out, lcells_app, List.length_append]
          have e1 : lcells [cutF dir f] = [sv (cutF dir f).p, .bool f.r, sv f.t] := by rw [HCR.out]; rfl
          rw [e1]
          simpa using hown'
      · obtain rfl : k = l.length := by omega
        have hrow := HROW.out
        rw [List.take_length] at hrow
        obtain ⟨av, cv, rfl, hlies, _⟩ := owns_lies hrow
        have hcv : (underL l dir).length ≤ cv := by
          rcases hrow.2 with ⟨h', h0⟩ | ⟨g, cap, cur, h', _, _, hc, _⟩
          · omega
          · cases h'; exact hc
        have HLI : Hid (LiesAt wr av (underL l dir)) := hlies
        have HNEW : Hid (NewL w.heap.size av cv (underL l dir)) := (⟨fun _ => owns_new hrow, owns_nil hrow⟩ : NewL _ _ _ _)
        clear hrow hlies
        go_wp2
        go_ret2
        exact ⟨by rw [HT.out]; exact ⟨av, cv, _, rfl, HLI.out, hcv, ErrAt.fine p wr, HNEW.out⟩, HB.out⟩
  · have HT : Hid (underT l dir = ([], treeFault l)) := by show underT l dir = _; simp [underT, hc]
    have HC : Hid ((treeFault l).1 ≠ 0) := hc
    clear hc
    go_enter Tryz.func165, Tryz.ntmps165
    go_wp2_with fail
    refine (checkTree_any p l a ca _ HE.out HL.out hca HS.out).mono ?_
    rintro e w1 ⟨⟨v, rfl, hv⟩, hb1⟩
    obtain ⟨T, u, rfl⟩ := hv.some HC.out
    have HV : Hid (ErrAt p w1 (.iface T u) (treeFault l).1 (treeFault l).2) := hv
    clear hv
    go_wp2
    go_ret2
    exact ⟨by rw [HT.out]; exact toldN_none HV.out, hb1⟩
theorem under_any (p : Nat → Addr) (l : List F) (a : Option Addr) (ca : Nat) (dir : List UInt8) (w : World) (hE : Env p w) (hl : LiesAt w a l) (hca : l.length ≤ ca) (hs : Small l) (hd : dir.length ≤ 40000) :
    Calls Tryz.prog 165 #[.slice a l.length ca, .string ⟨dir.toArray⟩] w fun e w' => Told p w' e (underT l dir) ∧ Below w.heap.size w w' :=
  (under_new p l a ca dir w hE hl hca hs hd).mono fun _ _ h => ⟨h.1.told, h.2⟩
end Go.Proofs.YtmcfkoenpikldaaGreatDoor
/-
  Package tree's Strip: over this seat's translation.
-/
namespace Go.Proofs.YtmcfkoenpikldaaGreatDoor
open Go.RowKit Go.Shelf

theorem lcells_split {l : List F} {k : Nat} (hk : k < l.length) : lcells l = lcells (l.take k) ++ (fcells l[k] ++ lcells (l.drop (k + 1))) := by
  have : l = l.take k ++ l[k] :: l.drop (k + 1) := by rw [← List.drop_eq_getElem_cons hk, List.take_append_drop]
  conv => lhs; rw [this]
  rw [lcells_app]
  rfl

theorem lcells_set {l : List F} {k : Nat} (hk : k < l.length) (q : List UInt8) : (lcells l).set (k * 3) (sv q) = lcells (l.set k { l[k] with p := q }) := by
  have hlen : (lcells (l.take k)).length = k * 3 := by rw [lcells_length, List.length_take]; congr 1; omega
  have hk' : k < (l.set k { l[k] with p := q }).length := by simpa using hk
  rw [lcells_split hk, lcells_split hk', List.set_append_right _ _ (by omega), hlen, Nat.sub_self]
  rw [List.take_set_of_le (Nat.le_refl k), List.drop_set_of_lt (by omega), List.getElem_set_self]
  rfl

/-- Paths changed up to a place. -/
def mixed (g : List UInt8 → List UInt8 × Nat) (l : List F) (k : Nat) : List F := (l.take k).map (fun f => { f with p := (g f.p).1 }) ++ l.drop k

theorem mixed_length (g : List UInt8 → List UInt8 × Nat) (l : List F) (k : Nat) : (mixed g l k).length = l.length := by
  unfold mixed
  rw [List.length_append, List.length_map, List.length_take, List.length_drop]
  omega
theorem mixed_zero (g : List UInt8 → List UInt8 × Nat) (l : List F) : mixed g l 0 = l := by simp [mixed]
theorem mixed_all (g : List UInt8 → List UInt8 × Nat) (l : List F) : mixed g l l.length = l.map (fun f => { f with p := (g f.p).1 }) := by simp [mixed]
theorem mixed_at {g : List UInt8 → List UInt8 × Nat} {l : List F} {k : Nat} (hk : k < l.length) : (mixed g l k)[k]'(by rw [mixed_length]; exact hk) = l[k] := by
  have hl : ((l.take k).map (fun f : F => ({ f with p := (g f.p).1 } : F))).length = k := by rw [List.length_map, List.length_take]; omega
  unfold mixed
  rw [List.getElem_append_right (by omega), List.getElem_drop]
  congr 1
  omega
theorem mixed_succ {g : List UInt8 → List UInt8 × Nat} {l : List F} {k : Nat} (hk : k < l.length) : mixed g l (k + 1) = (mixed g l k).set k { l[k] with p := (g l[k].p).1 } := by
  have hl : ((l.take k).map (fun f : F => ({ f with p := (g f.p).1 } : F))).length = k := by rw [List.length_map, List.length_take]; omega
  unfold mixed
  rw [List.set_append_right _ _ (by omega), hl, Nat.sub_self, List.take_succ_eq_append_getElem hk, List.map_append, List.drop_eq_getElem_cons hk, List.append_assoc]
  rfl

theorem stripL_le (s : List UInt8) (n : Int) : (stripL s n).2 ≤ 13 := by
  have := checkCode_le s
  unfold stripL
  repeat' split
  all_goals first | exact this | (simp; done)

theorem stripL_short (s : List UInt8) (n : Int) : (stripL s n).1.length ≤ s.length := by
  unfold stripL
  repeat' split
  all_goals first | (simp; done) | skip
  have h := join_pieces s
  have hd : ∀ (ks : List (List UInt8)) (m : Nat), (Lib.join (ks.drop m) [47]).length ≤ (Lib.join ks [47]).length := by
    intro ks
    induction ks with
    | nil => intro m; simp
    | cons x r ih =>
      intro m
      cases m with
      | zero => simp
      | succ m =>
        refine Nat.le_trans (ih m) ?_
        cases r with
        | nil => simp [Lib.join_nil]
        | cons y r => simp [Lib.join]; omega
  have := hd (pieces s) n.toNat
  rw [h] at this
  exact this

theorem map_small {l : List F} (n : Int) (h : Small l) : Small (l.map fun f => { f with p := (stripL f.p n).1 }) :=
  ⟨by rw [List.length_map]; exact h.few, fun f hf => by
    obtain ⟨g, hg, rfl⟩ := List.mem_map.1 hf
    exact Nat.le_trans (stripL_short g.p n) (h.path g hg), fun f hf => by
    obtain ⟨g, hg, rfl⟩ := List.mem_map.1 hf
    exact h.text g hg⟩

set_option maxRecDepth 100000 in
set_option maxHeartbeats 4000000 in
theorem stripTree_new (p : Nat → Addr) (l : List F) (a : Option Addr) (ca : Nat) (n : Int) (w : World) (hE : Env p w) (hl : LiesAt w a l) (hca : l.length ≤ ca) (hs : Small l) :
    Calls Tryz.prog 285 #[.slice a l.length ca, .int .i64 n] w fun e w' => ToldN p w.heap.size w' e (stripT l n) ∧ Below w.heap.size w w' := by
  have hfew := hs.few
  have HE : Hid (Env p w) := hE
  have HL : Hid (LiesAt w a l) := hl
  have HS : Hid (Small l) := hs
  clear hE hl hs
  by_cases hc : (treeFault l).1 = 0
  · have HF : Hid (treeFault l = (0, -1)) := treeFault_zero hc
    go_enter Tryz.func285, Tryz.ntmps285
    go_wp2_with fail
    refine (checkTree_any p l a ca _ HE.out HL.out hca HS.out).mono ?_
    rintro e w0 ⟨⟨v, rfl, hv⟩, hb0⟩
    rw [HF.out] at hv
    have := hv.isNil
    subst this
    have HB0 : Hid (Below w.heap.size w w0) := hb0
    clear hv hb0
    go_wp2_with fail
    refine (clone_any l a ca _ (HL.out.below HB0.out) hfew).mono ?_
    rintro e w1 ⟨⟨v, rfl, hown⟩, hb1⟩
    obtain ⟨av, cv, rfl, _, _⟩ := owns_lies hown
    have HB1 : Hid (Below w.heap.size w w1) := HB0.out.trans (hb1.mono HB0.out.size)
    have HOWN : Hid (w1.ownsRow w.heap.size 103 3 (.slice av l.length cv) l.length (lcells l)) := hown.mono HB0.out.size
    clear hb1 hown
    go_wp2_with fail
    go_loopw [21] (fun i wr => ∃ k : Nat, k ≤ l.length ∧ i = .int .i64 k ∧ ((∀ j (h : j < l.length), j < k → (stripL l[j].p n).2 = 0) ∧ wr.ownsRow w.heap.size 103 3 (.slice av l.length cv) l.length (lcells (mixed (fun s => stripL s n) l k))) ∧ Below w.heap.size w wr) (fun i _ => l.length - (intOf i).toNat)
    case atStart => exact ⟨0, by omega, rfl, ⟨fun _ _ h => by omega, by rw [mixed_zero]; exact HOWN.out⟩, HB1.out⟩
    case round =>
      obtain ⟨k, hk, rfl, ⟨hz, hrow⟩, hb⟩ := hrel
      have HB : Hid (Below w.heap.size w wr) := hb
      have HZ : Hid (∀ j (h : j < l.length), j < k → (stripL l[j].p n).2 = 0) := hz
      have HROW : Hid (wr.ownsRow w.heap.size 103 3 (.slice av l.length cv) l.length (lcells (mixed (fun s => stripL s n) l k))) := hrow
      clear hb hrow hz
      by_cases hlt : k < l.length
      · have hlt' : (k : Int) < (l.length : Int) := by omega
        obtain ⟨b, o, rfl, c0, c1, c2⟩ := (HL.out.below HB.out).at hlt
        have hpl := HS.out.path _ (List.getElem_mem hlt)
        have HEW : Hid (Env p (wr.alloc (.cells #[sv l[k].p, .bool l[k].r, sv l[k].t] 103))) := HE.out.below (HB.out.alloc HB.out.size _)
        cases hst : stripL l[k].p n with
        | mk c kk =>
        cases kk with
        | succ kk =>
          have HT : Hid (stripT l n = ([], kk + 1, (k : Int))) := by
            show stripT l n = _
            have := mapPaths_at (fun s => stripL s n) l k 0 hlt HZ.out (by show (stripL l[k].p n).2 ≠ 0; rw [hst]; simp)
            have e : stripAll n l = ([], kk + 1, k) := by
              show mapPaths _ 0 l = _
              rw [this]
              show ([], (stripL l[k].p n).2, 0 + k) = _
              rw [hst, Nat.zero_add]
            unfold stripT
            rw [if_neg (by simp [hc]), e]
            rfl
          have hk13 : kk < 13 := by
            have := stripL_le l[k].p n
            rw [hst] at this
            have : kk + 1 ≤ 13 := this
            omega
          have HST : Hid (stripL l[k].p n = (c, kk + 1)) := hst
          clear hst
          generalize l[k] = f at c0 c1 c2 hpl HST HEW
          go_wp2_with fail
          refine (strip_bad p f.p c kk n _ HEW.out (by omega) HST.out).mono ?_
          rintro e w2 ⟨rfl, hb2⟩
          have hB2 : Below wr.heap.size wr w2 := ((Below.refl _ wr).alloc (Nat.le_refl _) _).trans (hb2.mono (by simp))
          have HB2 : Hid (Below w.heap.size w w2) := HB.out.trans (hB2.mono HB.out.size)
          clear hb2 hB2
          go_wp2
          go_ret2
          have hpc := pair_cells (w := w2) (x := .int .i64 k) (y := .iface 379 (.pointer (some (p kk)))) (T := 144) (Below.refl _ _)
          exact ⟨by rw [HT.out]; exact toldN_none (.inr (.inr ⟨kk, _, _, rfl, hk13, rfl, hpc.1, hpc.2⟩)), HB2.out.alloc HB2.out.size _⟩
        | zero =>
          have HN : Hid (∀ j (h : j < l.length), j < k + 1 → (stripL l[j].p n).2 = 0) := by
            intro j hj hjk
            by_cases e : j = k
            · subst e; rw [hst]
            · exact HZ.out j hj (by omega)
          have hmx := mixed_length (fun s => stripL s n) l k
          have hrow := HROW.out
          obtain ⟨g, rfl⟩ : ∃ g, av = some ⟨g, 0, none⟩ := by
            rcases hrow.2 with ⟨h', h0⟩ | ⟨g, cap, cur, h', _⟩
            · omega
            · cases h'; exact ⟨g, rfl⟩
          have HM : Hid ((lcells (mixed (fun s => stripL s n) l k)).set (k * 3) (sv c) = lcells (mixed (fun s => stripL s n) l (k + 1))) := by
            show _ = _
            rw [lcells_set (by omega) c, mixed_succ hlt, mixed_at hlt, hst]
          have hcell := hrow.cellAt (k * 3) (by omega)
          have hcell' : wr.cell? ⟨g, k * 3, none⟩ = some (sv l[k].p) := by
            rw [hcell]
            have := lcells_at (mixed (fun s => stripL s n) l k) k (by omega) 0 (by decide)
            rw [Nat.add_zero, mixed_at hlt] at this
            exact this
          have hfr := hrow.frozenAt (k * 3)
          have hgw := hrow.lt g rfl
          have HST : Hid (stripL l[k].p n = (c, 0)) := hst
          clear hst hcell hrow hmx
          generalize l[k] = f at c0 c1 c2 hpl HST HEW hcell'
          go_wp2_with fail
          refine (strip_ok p f.p c n _ HEW.out (by omega) HST.out).mono ?_
          rintro e w2 ⟨rfl, hb2⟩
          have hB2 : Below wr.heap.size wr w2 := ((Below.refl _ wr).alloc (Nat.le_refl _) _).trans (hb2.mono (by simp))
          have HB2 : Hid (Below w.heap.size w w2) := HB.out.trans (hB2.mono HB.out.size)
          have hrow2 := owns_below HROW.out hB2
          have m0 : w2.cell? ⟨g, k * 3, none⟩ = some (sv f.p) := (hB2.cell (p := ⟨g, k * 3, none⟩) hgw.2).trans hcell'
          have mf : w2.frozen? ⟨g, k * 3, none⟩ = false := hrow2.frozenAt (k * 3)
          have HR3 := (hrow2.stored (k * 3) (sv c)).1
          rw [HM.out] at HR3
          have HR3' : Hid ((w2.setCell ⟨g, k * 3, none⟩ (sv c)).ownsRow w.heap.size 103 3 (.slice (some ⟨g, 0, none⟩) l.length cv) l.length (lcells (mixed (fun s => stripL s n) l (k + 1)))) := HR3
          clear hb2 hB2 hrow2 HR3 hcell' hfr
          go_wp2
          go_roundw
          case rel => exact ⟨k + 1, by omega, by go_num, ⟨HN.out, HR3'.out⟩, HB2.out.setCell (p := ⟨g, k * 3, none⟩) hgw.1 _⟩
          case measure => simp [intOf]; omega
      · obtain rfl : k = l.length := by omega
        have hall : ∀ f ∈ l, (stripL f.p n).2 = 0 := fun f hf => by
          obtain ⟨j, hj, rfl⟩ := List.getElem_of_mem hf
          exact HZ.out j hj hj
        have hst : stripAll n l = (l.map fun f => { f with p := (stripL f.p n).1 }, 0, 0) := mapPaths_all (fun s => stripL s n) l 0 hall
        have HT : Hid (stripT l n = sortT (l.map fun f => { f with p := (stripL f.p n).1 })) := by
          show stripT l n = _
          unfold stripT
          rw [if_neg (by simp [hc]), hst]
          rfl
        have hrow := HROW.out
        rw [mixed_all] at hrow
        have hlen : l.length = (l.map fun f => { f with p := (stripL f.p n).1 }).length := by simp
        rw [hlen] at hrow
        obtain ⟨av', cv', e', hlies, _⟩ := owns_lies hrow
        cases e'
        have HLI : Hid (LiesAt wr av (l.map fun f => { f with p := (stripL f.p n).1 })) := hlies
        have HSM := map_small n HS.out
        have HLEN : Hid (l.length = (l.map fun f => { f with p := (stripL f.p n).1 }).length) := hlen
        clear hrow hlies hst hall hlen
        generalize (l.map fun f => { f with p := (stripL f.p n).1 }) = m at HT HLI HSM HLEN
        go_wp2_with fail
        rw [HLEN.out]
        refine (sortTree_new p m av cv _ (HE.out.below HB.out) HLI.out HSM).mono ?_
        rintro e w2 ⟨⟨a2, c2, v2, rfl, h1, h2, h3, h4⟩, hb2⟩
        have HX : Hid (LiesAt w2 a2 (sortT m).1 ∧ (sortT m).1.length ≤ c2 ∧ ErrAt p w2 v2 (sortT m).2.1 (sortT m).2.2 ∧ NewL w.heap.size a2 c2 (sortT m).1) := ⟨h1, h2, h3, h4.mono HB.out.size⟩
        have HB2 : Hid (Below w.heap.size w w2) := HB.out.trans (hb2.mono HB.out.size)
        clear h1 h2 h3 h4 hb2
        go_wp2
        go_ret2
        exact ⟨by rw [HT.out]; exact ⟨a2, c2, v2, rfl, HX.out.1, HX.out.2.1, HX.out.2.2.1, HX.out.2.2.2⟩, HB2.out⟩
  · have HT : Hid (stripT l n = ([], treeFault l)) := by show stripT l n = _; simp [stripT, hc]
    have HC : Hid ((treeFault l).1 ≠ 0) := hc
    clear hc
    go_enter Tryz.func285, Tryz.ntmps285
    go_wp2_with fail
    refine (checkTree_any p l a ca _ HE.out HL.out hca HS.out).mono ?_
    rintro e w1 ⟨⟨v, rfl, hv⟩, hb1⟩
    obtain ⟨T, u, rfl⟩ := hv.some HC.out
    have HV : Hid (ErrAt p w1 (.iface T u) (treeFault l).1 (treeFault l).2) := hv
    clear hv
    go_wp2
    go_ret2
    exact ⟨by rw [HT.out]; exact toldN_none HV.out, hb1⟩
theorem stripTree_any (p : Nat → Addr) (l : List F) (a : Option Addr) (ca : Nat) (n : Int) (w : World) (hE : Env p w) (hl : LiesAt w a l) (hca : l.length ≤ ca) (hs : Small l) :
    Calls Tryz.prog 285 #[.slice a l.length ca, .int .i64 n] w fun e w' => Told p w' e (stripT l n) ∧ Below w.heap.size w w' :=
  (stripTree_new p l a ca n w hE hl hca hs).mono fun _ _ h => ⟨h.1.told, h.2⟩
end Go.Proofs.YtmcfkoenpikldaaGreatDoor
