/-
  Own texts of the proof, joined by program: PkUnder, PkDelete, PkInsert.
-/
import Derived.Test.YtmcfkoenpikldaaGreatDoorPkClonePkFindPkSortFnPkSort
import Derived.Test.YtmcfkoenpikldaaGreatDoorTreePureTreeSortTreeFactsTreeInsertTreeAt
import Derived.Shelf.Spec.SlicesInsert
import Derived.Deep.RegionLaw
import Derived.Shelf.RegionOpenPlain
import Derived.Lib.AppendZerosOnto
import Derived.Laws.NewBlocks
import Derived.Lib.Overlaps
import Derived.Laws.Externs
/-
  Package tree's Under: over this seat's translation.
-/
namespace Go.Proofs.YtmcfkoenpikldaaGreatDoor
open Go.RowKit Go.Shelf

theorem underL_take {l : List F} {k : Nat} (dir : List UInt8) (hk : k < l.length) : underL (l.take (k + 1)) dir = underL (l.take k) dir ++ (if isIn l[k].p dir = true then [cutF dir l[k]] else []) := by
  rw [List.take_succ_eq_append_getElem hk]
  unfold underL
  rw [List.filter_append, List.map_append]
  by_cases h : isIn l[k].p dir = true
  · rw [if_pos h, List.filter_cons, if_pos h]; rfl
  · rw [if_neg h, List.filter_cons, if_neg h]; rfl

theorem cut_path {f : F} {dir : List UInt8} (h : isIn f.p dir = true) : Lib.trimPrefix f.p (dir ++ [47]) = (cutF dir f).p := by
  simp only [isIn, Bool.and_eq_true, Bool.or_eq_true, decide_eq_true_eq] at h
  by_cases hd : dir = []
  · subst hd
    have hh := (clean_self h.1).1
    have : Lib.hasPrefix f.p [47] = false := by
      cases hp : Lib.hasPrefix f.p [47] with
      | false => rfl
      | true =>
        have hp' : [47] <+: f.p := by simpa [Lib.hasPrefix] using hp
        obtain ⟨t, ht⟩ := hp'
        rw [← ht] at hh
        simp at hh
    simp [Lib.trimPrefix, cutF, this]
  · have hp : Lib.hasPrefix f.p (dir ++ [47]) = true := by
      rcases h.2 with h' | h'
      · exact absurd (List.isEmpty_iff.1 h') hd
      · exact h'
    simp [Lib.trimPrefix, cutF, hd, hp]

theorem trimL (s q : List UInt8) (w : World) : Calls Tryz.prog 221 #[.string ⟨s.toArray⟩, .string ⟨q.toArray⟩] w fun e w' => e = .returned (.string ⟨(Lib.trimPrefix s q).toArray⟩) ∧ w' = w := Tryz.strings_TrimPrefix ⟨s.toArray⟩ ⟨q.toArray⟩ w

theorem trim_is (f : F) (dir : List UInt8) (w : World) (h : isIn f.p dir = true) :
    Calls Tryz.prog 221 #[.string ⟨f.p.toArray⟩, .string (({ data := dir.toArray } : ByteArray) ++ { data := #[47] })] w fun e w' => e = .returned (.string ⟨(cutF dir f).p.toArray⟩) ∧ w' = w := by
  rw [show ({ data := dir.toArray } : ByteArray) ++ { data := #[47] } = ⟨(dir ++ [47]).toArray⟩ from by
    rw [show ({ data := #[47] } : ByteArray) = ⟨[47].toArray⟩ from rfl, cat_list]]
  have := trimL f.p (dir ++ [47]) w
  rwa [cut_path h] at this

theorem box_set {W : World} {b : Nat} {x y z : Value} (u : Value) (g0 : W.cell? ⟨b, 0, none⟩ = some x) (g1 : W.cell? ⟨b, 1, none⟩ = some y) (g2 : W.cell? ⟨b, 2, none⟩ = some z) :
    (W.setCell ⟨b, 0, none⟩ u).cell? ⟨b, 0, none⟩ = some u ∧ (W.setCell ⟨b, 0, none⟩ u).cell? ⟨b, 1, none⟩ = some y ∧ (W.setCell ⟨b, 0, none⟩ u).cell? ⟨b, 2, none⟩ = some z := by
  refine ⟨World.cell?_setCell_same' _ _ _ (by rw [g0]; rfl), ?_, ?_⟩
  · rw [World.cell?_setCell_other (h := by simp), g1]
  · rw [World.cell?_setCell_other (h := by simp), g2]

theorem box_frozen {w w' : World} {x y z : Value} {T : TypeId} (h : Below (w.heap.size + 1) (w.alloc (.cells #[x, y, z] T)) w') (j : Nat) : w'.frozen? ⟨w.heap.size, j, none⟩ = false := by
  have e := h.block w.heap.size (Nat.lt_succ_self _)
  rw [heap_new] at e
  simp [World.frozen?, e]

/-- A row of the call's own, behind a store into a later block. -/
theorem owns_later {w w1 : World} {base b j : Nat} {e : TypeId} {size : Nat} {v : Value} {n : Nat} {xs : List Value} (u : Value) (h : w.ownsRow base e size v n xs) (hb : Below w.heap.size w w1) (hbb : w.heap.size ≤ b) : (w1.setCell ⟨b, j, none⟩ u).ownsRow base e size v n xs :=
  owns_keep h fun g _ hg => (Below.heap_setCell _ _ _ _ (by show g ≠ b; omega)).trans (hb.block g hg)

theorem three_new (W : World) (x y z : Value) (T : TypeId) (n : Nat) (hn : n = W.heap.size) : ∀ j u, [x, y, z][j]? = some u → (W.alloc (.cells #[x, y, z] T)).cell? ((⟨n, 0, none⟩ : Addr).add j) = some u := by
  subst hn
  intro j u h
  have hn := heap_new W (.cells #[x, y, z] T)
  have hc : ∀ k, (W.alloc (.cells #[x, y, z] T)).cell? ⟨W.heap.size, k, none⟩ = #[x, y, z][k]? := fun k => by
    unfold World.cell?
    rw [hn]
    rfl
  rcases j with _ | _ | _ | j
  · exact (hc 0).trans h
  · exact (hc (0 + 1)).trans h
  · exact (hc (0 + 2)).trans h
  · simp at h

set_option maxRecDepth 100000 in
set_option maxHeartbeats 4000000 in
theorem under_new (p : Nat → Addr) (l : List F) (a : Option Addr) (ca : Nat) (dir : List UInt8) (w : World) (hE : Env p w) (hl : LiesAt w a l) (hca : l.length ≤ ca) (hs : Small l) (hd : dir.length ≤ 40000) :
    Calls Tryz.prog 165 #[.slice a l.length ca, .string ⟨dir.toArray⟩] w fun e w' => ToldN p w.heap.size w' e (underT l dir) ∧ Below w.heap.size w w' := by
  have hfew := hs.few
  have HE : Hid (Env p w) := hE
  have HL : Hid (LiesAt w a l) := hl
  have HS : Hid (Small l) := hs
  clear hE hl hs
  by_cases hc : (treeFault l).1 = 0
  · have HT : Hid (underT l dir = (underL l dir, 0, -1)) := by show underT l dir = _; simp [underT, hc]
    have HF : Hid (treeFault l = (0, -1)) := treeFault_zero hc
    clear hc
    obtain ⟨i0, hi, hz0, hz1, hz2⟩ := info_parts Tryz.infoFile
    go_enter Tryz.func165, Tryz.ntmps165
    go_wp2_with fail
    refine (checkTree_any p l a ca _ HE.out HL.out hca HS.out).mono ?_
    rintro e w0 ⟨⟨v, rfl, hv⟩, hb0⟩
    rw [HF.out] at hv
    have := hv.isNil
    subst this
    have HB0 : Hid (Below w.heap.size w w0) := hb0
    clear hv hb0
    go_wp2_with fail
    go_loopw [7, 17] (fun out i wr => ∃ k : Nat, k ≤ l.length ∧ i = .int .i64 k ∧ wr.ownsRow w.heap.size 103 3 out (underL (l.take k) dir).length (lcells (underL (l.take k) dir)) ∧ Below w.heap.size w wr) (fun _ i _ => l.length - (intOf i).toNat)
    case atStart => exact ⟨0, by omega, rfl, World.ownsRow_nil _ _ _ _, HB0.out⟩
    case round =>
      obtain ⟨k, hk, rfl, hrow, hb⟩ := hrel
      have HB : Hid (Below w.heap.size w wr) := hb
      have HROW : Hid (wr.ownsRow w.heap.size 103 3 _ (underL (l.take k) dir).length (lcells (underL (l.take k) dir))) := hrow
      clear hb hrow
      have hwl : (underL (l.take k) dir).length ≤ k := by
        unfold underL
        rw [List.length_map]
        refine Nat.le_trans (List.length_filter_le _ _) ?_
        simp; omega
      by_cases hlt : k < l.length
      · have hlt' : (k : Int) < (l.length : Int) := by omega
        obtain ⟨b, o, rfl, c0, c1, c2⟩ := (HL.out.below HB.out).at hlt
        have hpl := HS.out.path _ (List.getElem_mem hlt)
        have hB0 : Below w.heap.size w (wr.alloc (.cells #[sv l[k].p, .bool l[k].r, sv l[k].t] 103)) := HB.out.alloc HB.out.size _
        have HEW : Hid (Env p (wr.alloc (.cells #[sv l[k].p, .bool l[k].r, sv l[k].t] 103))) := HE.out.below hB0
        clear hB0
        cases hin : isIn l[k].p dir with
        | false =>
          have HW : Hid (underL (l.take (k + 1)) dir = underL (l.take k) dir) := by
            show underL _ _ = underL _ _
            rw [underL_take dir hlt, if_neg (by simp [hin]), List.append_nil]
          have HI : Hid (isIn l[k].p dir = false) := hin
          clear hin
          generalize l[k] = f at c0 c1 c2 hpl HI HEW
          go_wp2_with fail
          refine (in_any p f.p dir _ HEW.out (by omega) (by omega)).mono ?_
          rintro e w1 ⟨rfl, hb1⟩
          rw [HI.out]
          have hB1 : Below wr.heap.size wr w1 := ((Below.refl _ wr).alloc (Nat.le_refl _) _).trans (hb1.mono (by simp))
          have HR1 : Hid (w1.ownsRow w.heap.size 103 3 _ (underL (l.take k) dir).length (lcells (underL (l.take k) dir))) := owns_below HROW.out hB1
          have HB1 : Hid (Below w.heap.size w w1) := HB.out.trans (hB1.mono HB.out.size)
          clear hb1 hB1
          go_wp2
          go_roundw
          case rel => exact ⟨k + 1, by omega, by go_num, by rw [HW.out]; exact HR1.out, HB1.out⟩
          case measure => simp [intOf]; omega
        | true =>
          have HW : Hid (underL (l.take (k + 1)) dir = underL (l.take k) dir ++ [cutF dir l[k]]) := by
            show underL _ _ = _
            rw [underL_take dir hlt, if_pos hin]
          have HI : Hid (isIn l[k].p dir = true) := hin
          have hcr : cutF dir l[k] = ⟨(cutF dir l[k]).p, l[k].r, l[k].t⟩ := by unfold cutF; split <;> rfl
          have HCR : Hid (cutF dir l[k] = ⟨(cutF dir l[k]).p, l[k].r, l[k].t⟩) := hcr
          clear hin hcr
          generalize l[k] = f at c0 c1 c2 hpl HI HW HCR HEW
          go_wp2_with fail
          refine (in_any p f.p dir _ HEW.out (by omega) (by omega)).mono ?_
          rintro e w1 ⟨rfl, hb1⟩
          rw [HI.out]
          have hbx : Below (wr.heap.size + 1) (wr.alloc (.cells #[sv f.p, .bool f.r, sv f.t] 103)) w1 := hb1.mono (by simp)
          obtain ⟨g0, g1, g2, hB1⟩ := box_three hbx
          have gf := box_frozen hbx
          have hsz1 : wr.heap.size + 1 ≤ w1.heap.size := by have := hb1.size; simpa using this
          have hrow2 := owns_later (j := 0) (sv (cutF dir f).p) HROW.out hB1 (Nat.le_refl _)
          have HB1 : Hid (Below w.heap.size w w1) := HB.out.trans (hB1.mono HB.out.size)
          have hswr := HB.out.size
          clear hb1 hbx hB1
          obtain ⟨j0, j1, j2⟩ := box_set (sv (cutF dir f).p) g0 g1 g2
          go_wp2_with fail
          refine (trim_is f dir _ HI.out).mono ?_
          rintro e w1' ⟨rfl, rfl⟩
          go_wp2_with (at_builtin; refine wpList_append_own _ rfl _ _ 43 rfl w.heap.size 103 i0 (.agg #[.string ⟨#[]⟩, .bool false, .string ⟨#[]⟩]) 3 40 Tryz.underlying43 hi hz0 hz1 hz2 rfl (by decide) _ _ _ rfl (hrow2.alloc _) ⟨w1'.heap.size, 0, none⟩ 1 1 [sv (cutF dir f).p, .bool f.r, sv f.t] rfl rfl (three_new _ _ _ _ _ _ (by simp)) (by simp [Value.oneCell']) (by unfold maxLen; omega) (by omega) (by simp; omega) ?_; intro v' w2 hown' hgrow _)
          have HB2 : Below w.heap.size w w2 := ((HB1.out.setCell (p := ⟨wr.heap.size, 0, none⟩) hswr _).alloc (by simp; omega) _).grown hgrow (by simp; omega) (fun j ej => (hrow2.lt j ej).1)
          refine ⟨⟨k + 1, by omega, by go_num, ?_, HB2⟩, by simp [intOf]; omega⟩
          rw [HW.out, lcells_app, List.length_append]
          have e1 : lcells [cutF dir f] = [sv (cutF dir f).p, .bool f.r, sv f.t] := by rw [HCR.out]; rfl
          rw [e1]
          simpa using hown'
      · obtain rfl : k = l.length := by omega
        have hrow := HROW.out
        rw [List.take_length] at hrow
        obtain ⟨av, cv, rfl, hlies, _⟩ := owns_lies hrow
        have hcv : (underL l dir).length ≤ cv := by
          rcases hrow.2 with ⟨h', h0⟩ | ⟨g, cap, cur, h', _, _, hc, _⟩
          · omega
          · cases h'; exact hc
        have HLI : Hid (LiesAt wr av (underL l dir)) := hlies
        have HNEW : Hid (NewL w.heap.size av cv (underL l dir)) := (⟨fun _ => owns_new hrow, owns_nil hrow⟩ : NewL _ _ _ _)
        clear hrow hlies
        go_wp2
        go_ret2
        exact ⟨by rw [HT.out]; exact ⟨av, cv, _, rfl, HLI.out, hcv, ErrAt.fine p wr, HNEW.out⟩, HB.out⟩
  · have HT : Hid (underT l dir = ([], treeFault l)) := by show underT l dir = _; simp [underT, hc]
    have HC : Hid ((treeFault l).1 ≠ 0) := hc
    clear hc
    go_enter Tryz.func165, Tryz.ntmps165
    go_wp2_with fail
    refine (checkTree_any p l a ca _ HE.out HL.out hca HS.out).mono ?_
    rintro e w1 ⟨⟨v, rfl, hv⟩, hb1⟩
    obtain ⟨T, u, rfl⟩ := hv.some HC.out
    have HV : Hid (ErrAt p w1 (.iface T u) (treeFault l).1 (treeFault l).2) := hv
    clear hv
    go_wp2
    go_ret2
    exact ⟨by rw [HT.out]; exact toldN_none HV.out, hb1⟩
theorem under_any (p : Nat → Addr) (l : List F) (a : Option Addr) (ca : Nat) (dir : List UInt8) (w : World) (hE : Env p w) (hl : LiesAt w a l) (hca : l.length ≤ ca) (hs : Small l) (hd : dir.length ≤ 40000) :
    Calls Tryz.prog 165 #[.slice a l.length ca, .string ⟨dir.toArray⟩] w fun e w' => Told p w' e (underT l dir) ∧ Below w.heap.size w w' :=
  (under_new p l a ca dir w hE hl hca hs hd).mono fun _ _ h => ⟨h.1.told, h.2⟩
end Go.Proofs.YtmcfkoenpikldaaGreatDoor
/-
  Package slices' Delete of one file, package tree's Drop: over this seat's translation.
-/
namespace Go.Proofs.YtmcfkoenpikldaaGreatDoor
open Go.RowKit Go.Shelf Go.Lib

theorem lies_of_cells {w : World} {g : Nat} {m : List F} (h : ∀ t u, (lcells m)[t]? = some u → w.cell? ⟨g, t, none⟩ = some u) : LiesAt w (some ⟨g, 0, none⟩) m := fun _ => by
  refine ⟨g, 0, rfl, fun k hk => ?_⟩
  have hc : ∀ j, j < 3 → ∀ u, (fcells m[k])[j]? = some u → w.cell? ⟨g, 0 + k * 3 + j, none⟩ = some u := fun j hj u hu => by
    rw [Nat.zero_add]
    refine h _ u ?_
    rw [lcells_at m k hk j hj]
    exact hu
  exact ⟨by simpa using hc 0 (by omega) _ rfl, by simpa using hc 1 (by omega) _ rfl, by simpa using hc 2 (by omega) _ rfl⟩

theorem below_cells {base : Nat} {w0 w : World} (h : Below base w0 w) {g : Nat} (hg : base ≤ g) : ∀ (vs : List Value) (o : Nat), Below base w0 (w.setCells g o vs)
  | [], _ => h
  | v :: r, o => by
    rw [World.setCells]
    exact below_cells (h.setCell (p := ⟨g, o, none⟩) hg v) hg r (o + 1)

/-- A row of the call's own, in its cells. -/
theorem owns_row {w : World} {base g n cap : Nat} {xs : List Value} (h : w.ownsRow base 103 3 (.slice (some ⟨g, 0, none⟩) n cap) n xs) :
    base ≤ g ∧ g < w.heap.size ∧ n ≤ cap ∧ cap ≤ maxLen ∧ (∀ t u, xs[t]? = some u → w.cell? ⟨g, t, none⟩ = some u) ∧ (∀ t, t < cap * 3 → (w.cell? ⟨g, t, none⟩).isSome = true) ∧ ∀ t, w.frozen? ⟨g, t, none⟩ = false := by
  rcases h.2 with ⟨h', _⟩ | ⟨g', cap', cur, h', hb, hg, hn, hc, hs, ht⟩
  · cases h'
  · cases h'
    refine ⟨hb, (Array.getElem?_eq_some_iff.1 hg).1, hn, hc, fun t u hu => ?_, fun t htc => ?_, fun t => by simp [World.frozen?, hg]⟩
    · have htl : t < xs.length := (List.getElem?_eq_some_iff.1 hu).1
      rw [h.1] at htl
      rw [← ht, List.getElem?_take_of_lt htl] at hu
      simpa [World.cell?, hg] using hu
    · have : t < cur.size := by omega
      simp [World.cell?, hg, this]

theorem clear_one (w : World) (ty : TypeId) (g o c : Nat) (hc : ∀ j, j < 3 → (w.cell? ⟨g, o + j, none⟩).isSome = true) (hf : ∀ j, j < 3 → w.frozen? ⟨g, o + j, none⟩ = false) :
    (Builtin.clear_ #[43] ty #[.slice (some ⟨g, o, none⟩) 1 c]).run Tryz.prog w = .ok (.tuple #[]) (w.setCells g o [.string ⟨#[]⟩, .bool false, .string ⟨#[]⟩]) := by
  have hst := run_storeCells_cells (P := Tryz.prog) g o [.string ⟨#[]⟩, .bool false, .string ⟨#[]⟩] 0 w (by simpa using hc) (by simpa using hf) (by simp [Value.oneCell'])
  simp only [Nat.add_zero] at hst
  have hzc : (Builtin.zeroCells (Value.agg #[.string ⟨#[]⟩, .bool false, .string ⟨#[]⟩]).cells 1).toList = [.string ⟨#[]⟩, .bool false, .string ⟨#[]⟩] := by kernel_rfl
  have hv := Tryz.zeroValue103
  simp only [Builtin.clear_]
  simp [run_underlying Tryz.underlying43, hv, hzc, hst]

end Go.Proofs.YtmcfkoenpikldaaGreatDoor
/-
  Package slices' Insert of one file: over this seat's translation.
-/
namespace Go.Proofs.YtmcfkoenpikldaaGreatDoor
open Go.RowKit Go.Shelf Go.Lib

/-- copy of so many files. -/
theorem copy_files (w : World) (ty : TypeId) (b o dLen dCap : Nat) (a : Addr) (sLen sCap n : Nat) (cs : List Value) (hn : Nat.min sLen dLen = n) (hcs : cs.length = n * 3)
    (hsrc : ∀ j v, cs[j]? = some v → w.cell? (a.add j) = some v) (hc : ∀ j, j < cs.length → (w.cell? ⟨b, o + j, none⟩).isSome = true) (hf : ∀ j, j < cs.length → w.frozen? ⟨b, o + j, none⟩ = false) (h1 : ∀ v ∈ cs, v.oneCell' = true) :
    (Builtin.copy_ #[43, 43] ty #[.slice (some ⟨b, o, none⟩) dLen dCap, .slice (some a) sLen sCap]).run Tryz.prog w = .ok (goInt n) (w.setCells b o cs) := by
  have hl := run_loadCells_list (P := Tryz.prog) w a cs hsrc
  rw [hcs] at hl
  have hst := run_storeCells_cells (P := Tryz.prog) b o cs 0 w (by simpa using hc) (by simpa using hf) h1
  obtain ⟨i0, hi, hz0, hz1, hz2⟩ := info_parts Tryz.infoFile
  simp [Builtin.copy_, run_underlying Tryz.underlying43, Builtin.lenOf, Builtin.firstCells, sizeOf, typeInfo, hi, hz1, hn, hl, hst]

theorem lcells_cut (l : List F) (j : Nat) : lcells l = lcells (l.take j) ++ lcells (l.drop j) := by rw [← lcells_app, List.take_append_drop]
theorem lcells_take_length {l : List F} {j : Nat} (hj : j ≤ l.length) : (lcells (l.take j)).length = j * 3 := by rw [lcells_length, List.length_take]; congr 1; omega

/-- What lies where a file was put between. -/
theorem lies_between {w : World} {g j : Nat} {l : List F} {x : F} (hj : j ≤ l.length) (h0 : ∀ t u, t < j * 3 → (lcells (l.take j))[t]? = some u → w.cell? ⟨g, t, none⟩ = some u)
    (h1 : ∀ t u, (fcells x)[t]? = some u → w.cell? ⟨g, j * 3 + t, none⟩ = some u) (h2 : ∀ t u, (lcells (l.drop j))[t]? = some u → w.cell? ⟨g, (j + 1) * 3 + t, none⟩ = some u) : LiesAt w (some ⟨g, 0, none⟩) (l.take j ++ x :: l.drop j) := by
  refine lies_of_cells fun t u hu => ?_
  have e : lcells (l.take j ++ x :: l.drop j) = lcells (l.take j) ++ (fcells x ++ lcells (l.drop j)) := by rw [lcells_app]; rfl
  rw [e] at hu
  have hl := lcells_take_length hj
  by_cases ht : t < j * 3
  · rw [List.getElem?_append_left (by omega)] at hu
    exact h0 t u ht hu
  · rw [List.getElem?_append_right (by omega), hl] at hu
    by_cases ht3 : t - j * 3 < 3
    · rw [List.getElem?_append_left (by simp [fcells]; omega)] at hu
      have := h1 (t - j * 3) u hu
      rwa [show j * 3 + (t - j * 3) = t by omega] at this
    · have h3 : (fcells x).length = 3 := rfl
      rw [List.getElem?_append_right (by omega), h3] at hu
      have := h2 (t - j * 3 - 3) u hu
      rwa [show (j + 1) * 3 + (t - j * 3 - 3) = t by omega] at this

end Go.Proofs.YtmcfkoenpikldaaGreatDoor
