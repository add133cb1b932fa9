/-
  Own texts of the proof, joined by program: PkClone, PkFind, PkSortFn, PkSort.
-/
import Derived.Test.YtmcfkoenpikldaaGreatDoorLawTreeCame
import Derived.Lib.SliceRun
import Derived.Lib.Walk
import Derived.Test.YtmcfkoenpikldaaGreatDoorTreeMemTreeSlotsTreeErrTreeOwn
import Derived.Test.YtmcfkoenpikldaaGreatDoorTreePureTreeSortTreeFactsTreeInsertTreeAt
import Derived.Test.YtmcfkoenpikldaaGreatDoorShelf
import Derived.Test.YtmcfkoenpikldaaGreatDoorShelf2
import Derived.Test.YtmcfkoenpikldaaGreatDoorPkNextPkCheck
import Derived.Test.YtmcfkoenpikldaaGreatDoorToldPkPackRead
/-
  Package slices' Clone of files: over this seat's translation.
-/
namespace Go.Proofs.YtmcfkoenpikldaaGreatDoor
open Go.RowKit Go.Shelf

theorem lies_none {w : World} {l : List F} (h : LiesAt w none l) : l = [] := by
  by_cases e : l = []
  · exact e
  · obtain ⟨b, o, e', _⟩ := h e
    cases e'

set_option maxRecDepth 100000 in
set_option maxHeartbeats 2000000 in
theorem clone_any (l : List F) (a : Option Addr) (ca : Nat) (w : World) (hl : LiesAt w a l) (hf : l.length ≤ 100000) :
    Calls Tryz.prog 112 #[.slice a l.length ca] w fun e w' => (∃ v, e = .returned v ∧ w'.ownsRow w.heap.size 103 3 v l.length (lcells l)) ∧ Below w.heap.size w w' := by
  obtain ⟨i0, hi, hz0, hz1, hz2⟩ := info_parts Tryz.infoFile
  have q22 : ∀ (w : World) (a : Option Addr) (n c n' c' : Nat), (binOp .eql 43 (.slice a n c) (.slice none n' c')).run Tryz.prog w = .ok (.bool a.isNone) w := fun w a n c n' c' => Lib.run_eql_slice_nil w _ _ a n c n' c' Tryz.underlying43
  cases a with
  | none =>
    have := lies_none hl
    subst this
    clear hl
    go_enter Tryz.func112, Tryz.ntmps112
    go_wp2
    go_ret
    exact ⟨⟨_, rfl, World.ownsRow_nil _ _ _ _⟩, Below.refl _ _⟩
  | some ad =>
    have HN : Hid (∀ j u, (lcells l)[j]? = some u → w.cell? (ad.add j) = some u) := hl.news
    clear hl
    go_enter Tryz.func112, Tryz.ntmps112
    go_wp2_with (at_builtin; refine wpList_append_own _ rfl _ _ 43 rfl w.heap.size 103 i0 (.agg #[.string ⟨#[]⟩, .bool false, .string ⟨#[]⟩]) 3 40 Tryz.underlying43 hi hz0 hz1 hz2 rfl (by decide) _ _ _ rfl (World.ownsRow_made w #[] 0 (Nat.le_refl _) (Nat.zero_le _) (by simp)) ad l.length ca (lcells l) rfl (lcells_length l) (fun j u hj => Lib.cell?_alloc_some _ (HN.out j u hj)) (by intro u hu; simp only [lcells, List.mem_flatMap] at hu; obtain ⟨f, _, hu⟩ := hu; simp [fcells] at hu; rcases hu with rfl | rfl | rfl <;> rfl) (by unfold maxLen; omega) (by omega) (by simp) ?_; intro v' w1 hown hgrow _)
    go_ret
    refine ⟨⟨v', rfl, by simpa using hown⟩, ?_⟩
    exact ((Below.refl _ w).alloc (Nat.le_refl _) _).grown hgrow (by simp) (fun k hk => by have hk' : some w.heap.size = some k := hk; simp at hk'; omega)
end Go.Proofs.YtmcfkoenpikldaaGreatDoor
/-
  Package tree's find, by package slices' BinarySearchFunc: over this seat's translation.
-/
namespace Go.Proofs.YtmcfkoenpikldaaGreatDoor
open Go.RowKit Go.Shelf

theorem cmp_less : ∀ a b : List UInt8, decide (Lib.compareBytes a b < 0) = less a b
  | [], [] => by simp [Lib.compareBytes, less, Op.bytesLess]
  | [], _ :: _ => by simp [Lib.compareBytes, less, Op.bytesLess]
  | _ :: _, [] => by simp [Lib.compareBytes, less, Op.bytesLess]
  | x :: a, y :: b => by
    have ih := cmp_less a b
    simp only [less] at ih
    by_cases h1 : x < y
    · simp [Lib.compareBytes, less, Op.bytesLess, h1]
    · by_cases h2 : y < x
      · have : x ≠ y := fun e => by subst e; exact h1 h2
        simp [Lib.compareBytes, less, Op.bytesLess, h1, h2, this]
      · have : x = y := UInt8.le_antisymm (UInt8.not_lt.1 h2) (UInt8.not_lt.1 h1)
        subst this
        simp [Lib.compareBytes, less, Op.bytesLess, h1, ih]
theorem cmp_zero : ∀ a b : List UInt8, Lib.compareBytes a b = 0 ↔ a = b
  | [], [] => by simp [Lib.compareBytes]
  | [], _ :: _ => by simp [Lib.compareBytes]
  | _ :: _, [] => by simp [Lib.compareBytes]
  | x :: a, y :: b => by
    have ih := cmp_zero a b
    by_cases h1 : x < y
    · have : x ≠ y := fun e => by subst e; exact absurd h1 (UInt8.lt_irrefl _)
      simp [Lib.compareBytes, h1, this]
    · by_cases h2 : y < x
      · have : x ≠ y := fun e => by subst e; exact h1 h2
        simp [Lib.compareBytes, h1, h2, this]
      · have : x = y := UInt8.le_antisymm (UInt8.not_lt.1 h2) (UInt8.not_lt.1 h1)
        subst this
        simp [Lib.compareBytes, h1, ih]

theorem compare_is (a b : List UInt8) (w : World) : Calls Tryz.prog 88 #[.string ⟨a.toArray⟩, .string ⟨b.toArray⟩] w fun e w' => e = .returned (.int .i64 (Lib.compareBytes a b)) ∧ w' = w :=
  Tryz.strings_Compare ⟨a.toArray⟩ ⟨b.toArray⟩ w

end Go.Proofs.YtmcfkoenpikldaaGreatDoor
/-
  Package slices' SortFunc of files by their paths: over this seat's translation.
-/
namespace Go.Proofs.YtmcfkoenpikldaaGreatDoor
open Go.RowKit Go.Shelf Go.Sort Go.Lib

abbrev cfF (x y : F) : Int := Lib.compareBytes x.p y.p

theorem ltOf_less (x y : F) : ltOf cfF x y = less x.p y.p := cmp_less x.p y.p

theorem swoF : SWO (ltOf cfF) where
  irrefl x := by rw [ltOf_less]; exact less_irrefl _
  trans x y z h1 h2 := by rw [ltOf_less] at *; exact less_trans h1 h2
  ntrans x y z h1 h2 := by rw [ltOf_less] at *; exact less_weak h2 h1

theorem cmpSort (x y : F) (W : World) : Calls Tryz.prog 216 #[fv x, fv y] W fun e w' => e = .returned (.int .i64 (cfF x y)) ∧ ∃ q os', w' = grow (W.drewN q) os' := by
  go_enter Tryz.func216, Tryz.ntmps216
  go_wp2_with fail
  refine (compare_is x.p y.p _).mono ?_
  rintro e w1 ⟨rfl, rfl⟩
  go_wp2
  go_ret
  exact ⟨rfl, 0, _, by rw [alloc_eq_grow, alloc_eq_grow, grow_grow]; rfl⟩

/-- A row of the call's own holds its files. -/
theorem owns_holds [Inhabited F] {w : World} {base : Nat} {v : Value} {l : List F} (h : w.ownsRow base 103 3 v l.length (lcells l)) (hne : l ≠ []) :
    ∃ g cap, v = .slice (some ⟨g, 0, none⟩) l.length cap ∧ base ≤ g ∧ g < w.heap.size ∧ l.length ≤ cap ∧ HoldsK fcells 3 w g 0 l.toArray := by
  rcases h.2 with ⟨rfl, hn⟩ | ⟨g, cap, cur, rfl, hb, hg, hcap, hm, hsz, htk⟩
  · exact absurd (List.length_eq_zero_iff.1 hn) hne
  · refine ⟨g, cap, rfl, hb, (Array.getElem?_eq_some_iff.1 hg).1, hcap, fun t ht => ?_⟩
    rw [size_flatK] at ht
    have ht' : t < l.length * 3 := ht
    refine ⟨?_, by simp [World.frozen?, hg]⟩
    have hk : t / 3 < l.length := by omega
    have hm3 : t % 3 < 3 := Nat.mod_lt _ (by decide)
    rw [get_flatK _ _ _ _ ht, Nat.zero_add]
    have e1 : w.cell? ⟨g, t, none⟩ = (lcells l)[t]? := by
      rw [← htk, List.getElem?_take_of_lt (by omega)]
      simp [World.cell?, hg]
    have e2 : (lcells l)[t]? = (fcells l[t / 3])[t % 3]? := by
      rw [← lcells_at l (t / 3) hk (t % 3) hm3]
      congr 1
      omega
    have e3 : l.toArray[t / 3]! = l[t / 3] := by rw [getElem!_pos l.toArray (t / 3) (by simpa using hk)]; simp
    rw [e1, e2, e3]
    generalize t % 3 = c at hm3
    rcases c with _ | _ | _ | c
    · rfl
    · rfl
    · rfl
    · omega

theorem lies_holds [Inhabited F] {w : World} {g : Nat} {d : Array F} (h : HoldsK fcells 3 w g 0 d) : LiesAt w (some ⟨g, 0, none⟩) d.toList := fun _ => by
  refine ⟨g, 0, rfl, fun k hk => ?_⟩
  have hk' : k < d.size := by simpa using hk
  have c0 := (h.cell (i := k) (c := 0) hk' (by decide)).1
  have c1 := (h.cell (i := k) (c := 1) hk' (by decide)).1
  have c2 := (h.cell (i := k) (c := 2) hk' (by decide)).1
  rw [getElem!_pos d k hk'] at c0 c1 c2
  exact ⟨c0, c1, c2⟩

theorem below_sorted [Inhabited F] {base : Nat} {w : World} {g n : Nat} {d : Array F} {os : Array Obj} (hg : base ≤ g) (hgw : g < w.heap.size) : Below base w (sortWorldK fcells 3 w g 0 n d os) := by
  refine ⟨rfl, rfl, rfl, size_sortWorldK_c fcells 3 w g 0 n d os, fun k hk => ?_⟩
  have hkw : k < w.heap.size := by omega
  show ((putRowK fcells 3 (Sort.ahead w n) g 0 d).heap ++ os)[k]? = _
  have hsz : (putRowK fcells 3 (Sort.ahead w n) g 0 d).heap.size = w.heap.size := size_putRowK fcells 3 (Sort.ahead w n) g 0 d
  rw [Array.getElem?_append_left (by omega)]
  show (w.heap.modify g _)[k]? = _
  rw [Array.getElem?_modify, if_neg (by omega)]

theorem perm_of [Inhabited F] {l : List F} {d' : Array F} (h : PermIn 0 l.toArray.size l.toArray d') : d'.toList.Perm l := by
  have h1 := h.2.2
  have hs := h.1
  rw [show d'.extract 0 l.toArray.size = d' by rw [← hs]; simp] at h1
  simpa using h1

theorem weak_of [Inhabited F] {l : List F} {d' : Array F} (hs : d'.size = l.toArray.size) (h : SortedIn (ltOf cfF) 0 l.toArray.size d') : Weak d'.toList := by
  refine List.pairwise_iff_getElem.2 fun i j hi hj hij => ?_
  have hi' : i < d'.size := by simpa using hi
  have hj' : j < d'.size := by simpa using hj
  have := h i j (Nat.zero_le _) hij (by omega)
  rw [ltOf_less, getElem!_pos d' i hi', getElem!_pos d' j hj'] at this
  simpa using this

theorem sortFunc_any (l : List F) (v : Value) (base : Nat) (w : World) (h : w.ownsRow base 103 3 v l.length (lcells l)) (hf : l.length ≤ 100000) :
    Calls Tryz.prog 215 #[v, .func (.func 216) #[] #[]] w fun e w' => e = .returned (.tuple #[]) ∧ (∃ s a c, v = .slice a l.length c ∧ s.Perm l ∧ Weak s ∧ LiesAt w' a s ∧ l.length ≤ c) ∧ Below base w w' := by
  haveI : Inhabited F := ⟨⟨[], false, []⟩⟩
  by_cases hne : l = []
  · subst hne
    obtain ⟨a, cap, rfl, hl, _⟩ := owns_lies h
    refine (AnyF.slices_SortFunc_none Tryz.laysSort a cap _ w).mono ?_
    rintro e w' ⟨rfl, rfl⟩
    exact ⟨rfl, ⟨[], a, cap, rfl, List.Perm.refl _, List.Pairwise.nil, hl, Nat.zero_le _⟩, Below.refl _ _⟩
  · obtain ⟨g, cap, rfl, hb, hg, hcap, hH⟩ := owns_holds h hne
    have hc := AnyQ.slices_SortFunc Tryz.laysSort 3 Tryz.isAgg103 Tryz.sizeOf103 fcells (fun _ => rfl) (fun x u hu => by simp [fcells] at hu; rcases hu with rfl | rfl | rfl <;> rfl) cfF swoF 216 #[] g 0 cap l.toArray w
      (enters_of Tryz.func216 (by kernel_rfl) rfl) (fun m os dk _ x y => cmpSort x y _) hH hg (by simp; omega)
    refine Calls.mono (show Calls Tryz.prog 215 #[.slice (some ⟨g, 0, none⟩) l.length cap, .func (.func 216) #[] #[]] w _ from hc) ?_
    rintro e w' ⟨rfl, d', n, os, hperm, hsort, rfl⟩
    refine ⟨rfl, ⟨d'.toList, _, cap, rfl, perm_of hperm, weak_of hperm.1 hsort, ?_, hcap⟩, below_sorted hb hg⟩
    exact lies_holds (holdsK_sortWorldK_c fcells 3 w g 0 l.toArray d' n os hH hg hperm.1)
end Go.Proofs.YtmcfkoenpikldaaGreatDoor
/-
  Package tree's Sort: over this seat's translation.
-/
namespace Go.Proofs.YtmcfkoenpikldaaGreatDoor
open Go.RowKit Go.Shelf

theorem small_perm {s l : List F} (hp : s.Perm l) (h : Small l) : Small s :=
  ⟨by rw [hp.length_eq]; exact h.few, fun f hf => h.path f (hp.mem_iff.1 hf), fun f hf => h.text f (hp.mem_iff.1 hf)⟩

set_option maxRecDepth 100000 in
set_option maxHeartbeats 4000000 in
theorem sortTree_new (p : Nat → Addr) (l : List F) (a : Option Addr) (ca : Nat) (w : World) (hE : Env p w) (hl : LiesAt w a l) (hs : Small l) :
    Calls Tryz.prog 162 #[.slice a l.length ca] w fun e w' => ToldN p w.heap.size w' e (sortT l) ∧ Below w.heap.size w w' := by
  have hfew := hs.few
  have HE : Hid (Env p w) := hE
  have HL : Hid (LiesAt w a l) := hl
  have HS : Hid (Small l) := hs
  clear hE hl hs
  go_enter Tryz.func162, Tryz.ntmps162
  go_wp2_with fail
  refine (clone_any l a ca _ HL.out hfew).mono ?_
  rintro e w1 ⟨⟨v, rfl, hown⟩, hb1⟩
  have HB1 : Hid (Below w.heap.size w w1) := hb1
  have HOWN : Hid (w1.ownsRow w.heap.size 103 3 v l.length (lcells l)) := hown
  clear hb1 hown
  go_wp2_with fail
  refine (sortFunc_any l v w.heap.size w1 HOWN.out hfew).mono ?_
  rintro e w2 ⟨rfl, ⟨s, a', c', rfl, hperm, hweak, hlies, hcap⟩, hb2⟩
  have HB2 : Hid (Below w.heap.size w w2) := HB1.out.trans hb2
  have HNEW := Lib.hid (owns_new HOWN.out)
  have HNIL := Lib.hid (owns_nil HOWN.out)
  have HP : Hid (s.Perm l) := hperm
  have HW : Hid (Weak s) := hweak
  have HLS : Hid (LiesAt w2 a' s) := hlies
  have HSS : Hid (Small s) := small_perm hperm HS.out
  have hlen : l.length = s.length := hperm.length_eq.symm
  rw [hlen] at hcap hfew ⊢
  clear hb2 hperm hweak hlies HB1 HOWN hlen
  go_wp2_with fail
  go_loopw [5] (fun i wr => ∃ q : Nat, q ≤ s.length + 1 ∧ 1 ≤ q ∧ i = .int .i64 q ∧ (∀ j (hj : j + 1 < s.length), j + 1 < q → s[j + 1].p ≠ s[j].p) ∧ Below w2.heap.size w2 wr) (fun i _ => s.length + 1 - (intOf i).toNat)
  case atStart => exact ⟨1, by omega, by omega, rfl, fun _ _ h => by omega, Below.refl _ _⟩
  case round =>
    obtain ⟨q, hq, hq1, rfl, hz, hb⟩ := hrel
    have HB : Hid (Below w2.heap.size w2 wr) := hb
    have HBW : Hid (Below w.heap.size w wr) := HB2.out.trans (hb.mono HB2.out.size)
    have HZ : Hid (∀ j (hj : j + 1 < s.length), j + 1 < q → s[j + 1].p ≠ s[j].p) := hz
    clear hb hz
    by_cases hlt : q < s.length
    · obtain ⟨r, rfl⟩ : ∃ r, q = r + 1 := ⟨q - 1, by omega⟩
      obtain ⟨b, o, rfl, c0, c1, c2⟩ := (HLS.out.below HB.out).at hlt
      obtain ⟨b', o', e', d0, d1, d2⟩ := (HLS.out.below HB.out).at (k := r) (by omega)
      cases e'
      have hlt' : (r : Int) + 1 < (s.length : Int) := by omega
      by_cases he : s[r + 1].p = (s[r]'(by omega)).p
      · have HT : Hid (sortT l = ([], 7, -1)) := sortT_twice HP.out (not_nodup_of_step (by omega) he)
        have he' : (s[r + 1].p == (s[r]'(by omega)).p) = true := by simp [he]
        have s6 := (HE.out.below HBW.out).s6
        clear he
        generalize s[r + 1] = f at c0 c1 c2 he'
        generalize (s[r]'(by omega)) = g at d0 d1 d2 he'
        go_wp2_with fail
        go_quiet (fail)
        go_wp2_with fail
        go_quiet (fail)
        go_wp2
        go_ret2
        exact ⟨by rw [HT.out]; exact toldN_none (.inr (.inl ⟨6, rfl, by omega, rfl, rfl⟩)), below_drewN (below_drewN HBW.out _) _⟩
      · have HN : Hid (∀ j (hj : j + 1 < s.length), j + 1 < r + 1 + 1 → s[j + 1].p ≠ s[j].p) := by
          intro j hj hjr
          by_cases e : j = r
          · subst e; exact he
          · exact HZ.out j hj (by omega)
        have he' : (s[r + 1].p == (s[r]'(by omega)).p) = false := by simp [he]
        clear he
        generalize s[r + 1] = f at c0 c1 c2 he'
        generalize (s[r]'(by omega)) = g at d0 d1 d2 he'
        go_wp2_with fail
        go_quiet (fail)
        go_wp2
        go_roundw
        case rel => exact ⟨r + 1 + 1, by omega, by omega, by go_num, HN.out, below_drewN HB.out _⟩
        case measure => simp [intOf]; omega
    · have hnd : (s.map (·.p)).Nodup := nodup_of_step HW.out fun j hj => HZ.out j hj (by omega)
      have hlt' : ¬ (q : Int) < (s.length : Int) := by omega
      by_cases hc : (treeFault s).1 = 0
      · have HT : Hid (sortT l = (s, 0, -1)) := sortT_ok HP.out HW.out hnd hc
        have HF : Hid (treeFault s = (0, -1)) := treeFault_zero hc
        clear hnd hc
        go_wp2_with fail
        refine (checkTree_any p s a' c' _ (HE.out.below HBW.out) (HLS.out.below HB.out) hcap HSS.out).mono ?_
        rintro e w3 ⟨⟨v, rfl, hv⟩, hb3⟩
        rw [HF.out] at hv
        have := hv.isNil
        subst this
        have HB3 : Hid (Below wr.heap.size wr w3) := hb3
        clear hv hb3
        go_wp2
        go_ret2
        exact ⟨by rw [HT.out]; exact ⟨a', c', _, rfl, (HLS.out.below HB.out).below HB3.out, hcap, ErrAt.fine p w3, ⟨fun _ => HNEW.out, HNIL.out⟩⟩, HBW.out.trans (HB3.out.mono HBW.out.size)⟩
      · have HT : Hid (sortT l = ([], treeFault s)) := sortT_bad HP.out HW.out hnd hc
        have HC : Hid ((treeFault s).1 ≠ 0) := hc
        clear hnd hc
        go_wp2_with fail
        refine (checkTree_any p s a' c' _ (HE.out.below HBW.out) (HLS.out.below HB.out) hcap HSS.out).mono ?_
        rintro e w3 ⟨⟨v, rfl, hv⟩, hb3⟩
        obtain ⟨T, u, rfl⟩ := hv.some HC.out
        have HV : Hid (ErrAt p w3 (.iface T u) (treeFault s).1 (treeFault s).2) := hv
        have HB3 : Hid (Below wr.heap.size wr w3) := hb3
        clear hv hb3
        go_wp2
        go_ret2
        exact ⟨by rw [HT.out]; exact toldN_none HV.out, HBW.out.trans (HB3.out.mono HBW.out.size)⟩
theorem sortTree_any (p : Nat → Addr) (l : List F) (a : Option Addr) (ca : Nat) (w : World) (hE : Env p w) (hl : LiesAt w a l) (hs : Small l) :
    Calls Tryz.prog 162 #[.slice a l.length ca] w fun e w' => Told p w' e (sortT l) ∧ Below w.heap.size w w' :=
  (sortTree_new p l a ca w hE hl hs).mono fun _ _ h => ⟨h.1.told, h.2⟩
end Go.Proofs.YtmcfkoenpikldaaGreatDoor
