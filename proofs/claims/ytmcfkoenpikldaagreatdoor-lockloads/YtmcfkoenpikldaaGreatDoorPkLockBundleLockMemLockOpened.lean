/-
  Own texts of the proof, joined by program: PkLockBundle, LockMem, LockOpened.
-/
import Derived.Test.YtmcfkoenpikldaaGreatDoorPkLock
import Derived.Test.YtmcfkoenpikldaaGreatDoorPkHeldPkHeldPutPkHeldDoPkHeldCopy
import Derived.Test.YtmcfkoenpikldaaGreatDoorPkGraft
import Derived.Test.YtmcfkoenpikldaaGreatDoorPkMakePkPackMakePkPackSum
import Derived.Test.YtmcfkoenpikldaaGreatDoorLockPureLoadPureLoadsPure
import Derived.Maps.AppendAt
import Derived.Test.YtmcfkoenpikldaaGreatDoorOpenedHeldMem
import Derived.Test.YtmcfkoenpikldaaGreatDoorRefCutRuMemCameRules
/-
  Package lock: all, Bundle: contracts, over this seat's translation.
-/
namespace Go.Proofs.YtmcfkoenpikldaaGreatDoor
open Go.RowKit Go.Shelf

theorem Tryz.infoTree : (Tryz.prog.info? 43).map (fun i => (i.zero, i.size, i.bytes)) = some (some (.slice none 0 0), 1, 24) := by kernel_rfl

/-- A tree among others, as it lies. -/
structure Tl where
  a : Option Addr
  c : Nat
  l : List F
def Tl.v (x : Tl) : Value := .slice x.a x.l.length x.c
/-- Trees as they lie, apart from the row that names them. -/
def TreesAt (w : World) (v : Value) (rs : List Tl) : Prop := ∀ x ∈ rs, LiesAt w x.a x.l ∧ x.l.length ≤ x.c ∧ (x.l ≠ [] → ∀ b o t, x.a = some ⟨b, o, t⟩ → v.ownBlock ≠ some b)
theorem TreesAt.below {w w' : World} {v : Value} {rs : List Tl} (h : TreesAt w v rs) (hb : Below w.heap.size w w') : TreesAt w' v rs := fun x hx => ⟨(h x hx).1.below hb, (h x hx).2⟩
/-- One more, behind an append to the row. -/
theorem TreesAt.push {w1 w2 w3 : World} {v v' : Value} {rs : List Tl} {a : Option Addr} {c : Nat} {l : List F} (h : TreesAt w2 v rs) (hn : NewFiles w1 w2 a c l) (hv : ∀ g, v.ownBlock = some g → g < w1.heap.size) (o : Obj) (hg : (w2.alloc o).grownBy w3 v.ownBlock) (hat : v'.ownBlock = v.ownBlock ∨ v'.ownBlock = some (w2.alloc o).heap.size) : TreesAt w3 v' (rs ++ [⟨a, c, l⟩]) := by
  have hk : ∀ {x : Option Addr} {m : List F}, LiesAt w2 x m → (m ≠ [] → ∀ b o t, x = some ⟨b, o, t⟩ → v.ownBlock ≠ some b) → LiesAt w3 x m ∧ (m ≠ [] → ∀ b o t, x = some ⟨b, o, t⟩ → v'.ownBlock ≠ some b) := fun {x m} hl ha => by
    have hlt : m ≠ [] → ∀ b o t, x = some ⟨b, o, t⟩ → b < w2.heap.size := fun hm b o t e => by
      obtain ⟨j, u, hc⟩ := lies_cell hl hm e
      exact block_lt_of_cell hc
    refine ⟨lies_kept hl fun b o t hm e => ?_, fun hm b o t e e2 => ?_⟩
    · have hb := hlt hm b o t e
      rw [hg.block b (by rw [World.size_alloc]; omega) (fun e2 => ha hm b o t e e2.symm)]
      exact ((Below.refl _ w2).alloc (Nat.le_refl _) _).block b hb
    · have hb := hlt hm b o t e
      rcases hat with h2 | h2
      · rw [h2] at e2; exact ha hm b o t e e2
      · rw [h2, World.size_alloc] at e2
        simp only [Option.some.injEq] at e2
        omega
  intro x hx
  rcases List.mem_append.1 hx with hx | hx
  · obtain ⟨h1, h2, h3⟩ := h x hx
    obtain ⟨k1, k2⟩ := hk h1 h3
    exact ⟨k1, h2, k2⟩
  · simp at hx
    subst hx
    obtain ⟨k1, k2⟩ := hk hn.lies (fun _ b o t e e2 => by
      have := (hn.new b o t e).1
      have := hv b e2
      omega)
    exact ⟨k1, hn.cap, k2⟩

theorem tree_new (w : World) (v : Value) (T : TypeId) : ∀ j u, [v][j]? = some u → (w.alloc (.cells #[v] T)).cell? ((⟨w.heap.size, 0, none⟩ : Addr).add j) = some u := by
  intro j u h
  have hn := heap_new w (.cells #[v] T)
  have hc : (w.alloc (.cells #[v] T)).cell? ⟨w.heap.size, 0, none⟩ = #[v][0]? := by
    unfold World.cell?
    rw [hn]
    rfl
  rcases j with _ | j
  · exact hc.trans h
  · simp at h
theorem sum_wf {m : Int} (h : isS m = true) : (Lit.int .i64 m).wf = true := by
  have h1 : IntKind.i64.min = -9223372036854775808 := by decide
  have h2 : IntKind.i64.max = 9223372036854775807 := by decide
  unfold isS at h
  simp only [decide_eq_true_eq] at h
  simp only [Lit.wf, h1, h2, Bool.and_eq_true, decide_eq_true_eq]
  omega
theorem gone_at {h : Hs} {l : List Wt} {k : Nat} (hk : k < l.length) (hg : (getH h l[k].m).2 ≠ 0) (h0 : ∀ j (hj : j < l.length), j < k → (getH h l[j].m).2 = 0) : goneL h l = some k := by
  unfold goneL
  refine List.findIdx?_eq_some_iff_getElem.2 ⟨hk, by simpa using hg, fun j hj => by simp [h0 j (by omega) hj]⟩
theorem gone_no {h : Hs} {l : List Wt} (h0 : ∀ j (hj : j < l.length), (getH h l[j].m).2 = 0) : goneL h l = none := by
  unfold goneL
  refine List.findIdx?_eq_none_iff.2 fun x hx => ?_
  obtain ⟨j, hj, rfl⟩ := List.getElem_of_mem hx
  simp [h0 j hj]
theorem gone_none' {h : Hs} {l : List Wt} (hg : goneL h l = none) : ∀ x ∈ l, (getH h x.m).2 = 0 := fun x hx => by
  have := List.findIdx?_eq_none_iff.1 hg x hx
  simpa using this
theorem part_short {s : List UInt8} (h : isPart s = true) : s.length ≤ 12 := by
  simp only [isPart, Bool.and_eq_true, decide_eq_true_eq] at h
  omega
theorem getH_code (h : Hs) (n : Int) : (getH h n).2 = 0 ∨ (getH h n).2 = 6 ∧ (getH h n).1 = [] := by
  unfold getH
  split
  · exact .inr ⟨rfl, rfl⟩
  · exact .inl rfl

/-- What the trees of a lock are told to be. -/
def AllTold (p : Nat → Addr) (B : Nat) (h : Hs) (l : List Wt) (e : Ending) (w' : World) : Prop :=
  (∀ i, goneL h l = some i → ∃ v, e = .returned (.tuple #[.slice none 0 0, v]) ∧ ErrAt p w' v 6 (i : Int)) ∧
    (goneL h l = none → ∃ v rs, e = .returned (.tuple #[v, .nilIface]) ∧ w'.ownsRow B 43 1 v l.length (rs.map Tl.v) ∧ TreesAt w' v rs ∧ rs.map Tl.l = l.map (fun x => (getH h x.m).1))
theorem AllTold.gone {p : Nat → Addr} {B : Nat} {h : Hs} {l : List Wt} {w' : World} {v : Value} {i : Nat} (hg : goneL h l = some i) (hv : ErrAt p w' v 6 (i : Int)) : AllTold p B h l (.returned (.tuple #[.slice none 0 0, v])) w' :=
  ⟨fun j e => by rw [hg] at e; cases e; exact ⟨v, rfl, hv⟩, fun e => by rw [hg] at e; cases e⟩
theorem AllTold.fine {p : Nat → Addr} {B : Nat} {h : Hs} {l : List Wt} {w' : World} {v : Value} {rs : List Tl} (hg : goneL h l = none) (h1 : w'.ownsRow B 43 1 v l.length (rs.map Tl.v)) (h2 : TreesAt w' v rs) (h3 : rs.map Tl.l = l.map (fun x => (getH h x.m).1)) : AllTold p B h l (.returned (.tuple #[v, .nilIface])) w' :=
  ⟨fun j e => by (rw [hg] at e; cases e), fun _ => ⟨v, rs, rfl, h1, h2, h3⟩⟩

set_option maxRecDepth 100000 in
set_option maxHeartbeats 4000000 in
theorem lockAll_any (p : Nat → Addr) (h : Hs) (nb : Nat) (S R : Nat → Prop) (l : List Wt) (a : Option Addr) (ca : Nat) (w : World) (hA : HeldAt w nb S R h) (hE : HEnv p w) (hok : OkH h) (hl : WLies w a l) (hlk : Lock l) :
    Calls Tryz.prog 105 #[.pointer (some ⟨nb, 0, none⟩), .slice a l.length ca] w fun e w' => AllTold p w.heap.size h l e w' ∧ Below w.heap.size w w' := by
  have HA := Lib.hid hA
  have HE := Lib.hid hE
  have HOK := Lib.hid hok
  have HL := Lib.hid hl
  have HK := Lib.hid hlk
  have h20 := hlk.few
  obtain ⟨i0, hi, hz0, hz1, hz2⟩ := info_parts Tryz.infoTree
  clear hA hE hok hl hlk
  go_enter Tryz.func105, Tryz.ntmps105
  go_wp2_with fail
  go_loopw [6, 13] (fun out i wr => ∃ (q : Nat) (rs : List Tl), q ≤ l.length ∧ i = .int .i64 q ∧ wr.ownsRow w.heap.size 43 1 out q (rs.map Tl.v) ∧ TreesAt wr out rs ∧ rs.map Tl.l = (l.take q).map (fun x => (getH h x.m).1) ∧ (∀ j (hj : j < l.length), j < q → (getH h l[j].m).2 = 0) ∧ Below w.heap.size w wr) (fun _ i _ => l.length - (intOf i).toNat)
  case atStart => exact ⟨0, [], by omega, rfl, World.ownsRow_nil _ _ _ _, fun _ hx => by simp at hx, rfl, fun _ _ h => by omega, Below.refl _ _⟩
  case round =>
    obtain ⟨q, rs, hq, rfl, hrow, htr, hrs, h0, hb⟩ := hrel
    have HB := Lib.hid hb
    have HROW := Lib.hid hrow
    have HTR := Lib.hid htr
    have HRS := Lib.hid hrs
    have H0 := Lib.hid h0
    clear hb hrow htr hrs h0
    by_cases hlt : q < l.length
    · have hlt' : (q : Int) < (l.length : Int) := by omega
      obtain ⟨b, o, rfl, c0, c1, c2, c3, c4⟩ := (HL.out.below HB.out).at hlt
      have hwf := sum_wf (want_zero (HK.out.right _ (List.getElem_mem hlt))).2.2.2.2.2
      have HT : Hid (l.take (q + 1) = l.take q ++ [l[q]]) := List.take_succ_eq_append_getElem hlt
      have HG := Lib.hid (gone_at (h := h) hlt)
      have HCD := Lib.hid (getH_code h l[q].m)
      have HN : Hid ((getH h l[q].m).2 = 0 → ∀ j (hj : j < l.length), j < q + 1 → (getH h l[j].m).2 = 0) := fun e j hj hjq => by
        by_cases ej : j = q
        · subst ej; exact e
        · exact H0.out j hj (by omega)
      have HGO : Hid ((getH h l[q].m).2 ≠ 0 → goneL h l = some q) := fun e => HG.out e H0.out
      clear HG
      generalize l[q] = f at c0 c1 c2 c3 c4 hwf HT HCD HN HGO
      obtain ⟨n, u, k, s, m⟩ := f
      simp only at hwf
      have hBx : Below w.heap.size w (wr.alloc (wo n u k s m)) := HB.out.alloc HB.out.size _
      have HBx := Lib.hid hBx
      have hrowx := Lib.hid (HROW.out.alloc (wo n u k s m))
      have HAx := Lib.hid (HA.out.keep (T := fun _ => False) (Kept.of_below hBx) (fun _ _ f => f))
      clear hBx
      go_wp2_with fail
      refine ((heldCore p).get _ nb S R h m HAx.out (HE.out.below HBx.out) HOK.out hwf).mono ?_
      rintro e w2 ⟨⟨ga, gc, rfl, hnew⟩, hb2⟩
      have HB2 := Lib.hid (HBx.out.trans (hb2.mono HBx.out.size))
      have HNW := Lib.hid hnew
      have HR2 := Lib.hid (owns_below hrowx.out hb2)
      have HT2 : Hid (TreesAt w2 _ rs) := (HTR.out.below ((Below.refl _ wr).alloc (Nat.le_refl _) (wo n u k s m))).below hb2
      clear hb2 hnew
      rcases HCD.out with hg | ⟨hg, hg1⟩
      · have HG0 := Lib.hid hg
        rw [hg, errV_zero]
        have hgl : (getH h m).1.length ≤ 100000 := by
          have := tree_small (HOK.out.get hg).1
          exact this.few
        clear hg
        have hs2 := HB2.out.size
        go_wp2_with (at_builtin; refine wpList_append_own_at _ rfl _ _ 88 rfl w.heap.size 43 i0 (.slice none 0 0) 1 24 Tryz.underlying88 hi hz0 hz1 hz2 rfl (by decide) _ _ _ rfl (HR2.out.alloc _) ⟨w2.heap.size, 0, none⟩ 1 1 [.slice ga (getH h m).1.length gc] rfl rfl (tree_new _ _ _) (by simp [Value.oneCell']) (by unfold maxLen; omega) (by omega) (by simp; omega) ?_; intro v' w3 hown' hgrow _ hat)
        have HB3 : Below w.heap.size w w3 := (HB2.out.alloc (by omega) _).grown hgrow (by simp; omega) (fun j ej => (HR2.out.lt j ej).1)
        have hT3 : TreesAt w3 v' (rs ++ [⟨ga, gc, (getH h m).1⟩]) := HT2.out.push HNW.out (fun g e => (hrowx.out.lt g e).2) _ hgrow hat
        refine ⟨⟨q + 1, rs ++ [⟨ga, gc, (getH h m).1⟩], by omega, by go_num, ?_, hT3, ?_, HN.out HG0.out, HB3⟩, by simp [intOf]; omega⟩
        · rw [List.map_append]; exact hown'
        · rw [List.map_append, HRS.out, HT.out, List.map_append]; rfl
      · have HG1 := Lib.hid (HGO.out (by rw [hg]; decide))
        rw [hg, hg1]
        clear hg hg1
        have hpc := fun (W : World) => pair_cells (w := W) (x := .int .i64 q) (y := errV p 6) (T := 144) (Below.refl _ _)
        rw [errV_some p (by decide : 6 ≠ 0)] at hpc ⊢
        go_wp2
        go_ret2
        exact ⟨AllTold.gone HG1.out (.inr (.inr ⟨5, _, _, rfl, by decide, rfl, (hpc w2).1, (hpc w2).2⟩)), HB2.out.alloc HB2.out.size _⟩
    · obtain rfl : q = l.length := by omega
      have HG := Lib.hid (gone_no (h := h) (fun j hj => H0.out j hj hj))
      clear H0
      go_wp2
      go_ret2
      exact ⟨AllTold.fine HG.out HROW.out HTR.out (by rw [HRS.out, List.take_length]), HB.out⟩
theorem bundle_gone {h : Hs} {l : List Wt} {i : Nat} (hl : Lock l) (hg : goneL h l = some i) : bundleL h l = ([], 6, (i : Int)) := by
  unfold bundleL
  rw [if_neg (by rw [lock_zero hl]; simp), hg]
theorem bundle_bad {h : Hs} {l : List Wt} (hz : (lockFault l).1 ≠ 0) : bundleL h l = ([], lockFault l) := by unfold bundleL; rw [if_pos hz]
theorem bundle_graft {h : Hs} {l : List Wt} {c : Nat} (hl : Lock l) (hg : goneL h l = none) (hc : graftAll [] (treesL h l) = ([], c + 1)) : bundleL h l = ([], c + 1, -1) := by
  unfold bundleL
  rw [if_neg (by rw [lock_zero hl]; simp), hg, hc]
  simp
theorem bundle_pack {h : Hs} {l : List Wt} {m : List F} (hl : Lock l) (hg : goneL h l = none) (hc : graftAll [] (treesL h l) = (m, 0)) : bundleL h l = (packL m, 0, -1) := by
  unfold bundleL
  rw [if_neg (by rw [lock_zero hl]; simp), hg, hc]
  simp

set_option maxRecDepth 100000 in
set_option maxHeartbeats 4000000 in
theorem lockBundle_any (p : Nat → Addr) (h : Hs) (nb : Nat) (S R : Nat → Prop) (l : List Wt) (a : Option Addr) (ca : Nat) (w : World) (hA : HeldAt w nb S R h) (hE : WEnv p w) (hok : OkH h) (hl : WLies w a l) (hca : l.length ≤ ca) (hs : SmallW l) :
    Calls Tryz.prog 49 #[.pointer (some ⟨nb, 0, none⟩), .slice a l.length ca] w fun e w' => (∃ v, e = .returned (.tuple #[.string ⟨(bundleL h l).1.toArray⟩, v]) ∧ ErrAt p w' v (bundleL h l).2.1 (bundleL h l).2.2) ∧ Below w.heap.size w w' := by
  have HA := Lib.hid hA
  have HE := Lib.hid hE
  have HOK := Lib.hid hok
  have HL := Lib.hid hl
  have HS := Lib.hid hs
  clear hA hE hok hl hs
  have hmx : Tryz.prog.follows .mixedOrders = true := by kernel_rfl
  by_cases hz : (lockFault l).1 = 0
  · have hlk := lock_iff.1 hz
    have HK := Lib.hid hlk
    have HF := Lib.hid (lock_zero hlk)
    have h20 := hlk.few
    clear hz hlk
    go_enter Tryz.func49, Tryz.ntmps49
    go_wp2_with fail
    refine (lockCheck_any p l a ca _ HE.out HL.out hca HS.out).mono ?_
    rintro e w1 ⟨⟨v, rfl, hv⟩, hb1⟩
    rw [HF.out] at hv
    have := hv.isNil
    subst this
    have HB1 := Lib.hid hb1
    have HA1 := Lib.hid (HA.out.keep (T := fun _ => False) (Kept.of_below hb1) (fun _ _ f => f))
    clear hv hb1
    go_wp2_with fail
    refine (lockAll_any p h nb S R l a ca _ HA1.out ⟨(HE.out.below HB1.out).env, (HE.out.below HB1.out).sum⟩ HOK.out (HL.out.below HB1.out) HK.out).mono ?_
    rintro e w2 ⟨hm, hb2⟩
    have HB2 := Lib.hid (HB1.out.trans (hb2.mono HB1.out.size))
    have hs1 := HB1.out.size
    cases hg : goneL h l with
    | some i =>
      have HT := Lib.hid (bundle_gone HK.out hg)
      obtain ⟨v, rfl, hv⟩ := hm.1 i hg
      obtain ⟨T, u, rfl⟩ := hv.some (by decide)
      have HV := Lib.hid hv
      clear hv hb2 hg hm
      go_wp2
      go_ret2
      exact ⟨⟨_, by rw [HT.out] <;> rfl, by rw [HT.out]; exact HV.out⟩, HB2.out⟩
    | none =>
      have HG := Lib.hid hg
      obtain ⟨v, rs, rfl, hrow, htr, hrs⟩ := hm.2 hg
      have HROW := Lib.hid (hrow.mono (Nat.zero_le _))
      have HTR := Lib.hid htr
      have HRS := Lib.hid hrs
      have hrl : rs.length = l.length := by have := congrArg List.length hrs; simpa using this
      clear hrow htr hrs hb2 hg hm
      go_wp2_with fail
      go_loopw [8, 9, 31] (fun er out i wr => ∃ (q : Nat) (m : List F) (am : Option Addr) (cm : Nat), q ≤ l.length ∧ er = .nilIface ∧ i = .int .i64 q ∧ out = .slice am m.length cm ∧ LiesAt wr am m ∧ m.length ≤ cm ∧ (treeFault m).1 = 0 ∧ graftAll [] ((treesL h l).take q) = (m, 0) ∧ Below w2.heap.size w2 wr) (fun _ _ i _ => l.length - (intOf i).toNat)
      case atStart => exact ⟨0, [], none, 0, by omega, rfl, rfl, rfl, fun h => absurd rfl h, Nat.le_refl _, by simp [treeFault, firstBad, total], rfl, Below.refl _ _⟩
      case round =>
        obtain ⟨q, m, am, cm, hq, rfl, rfl, rfl, hlm, hcm, htm, hgr, hb⟩ := hrel
        have HB := Lib.hid hb
        have HLM := Lib.hid hlm
        have HTM := Lib.hid htm
        have HGR := Lib.hid hgr
        have HSM := Lib.hid (tree_small htm)
        clear hb hlm htm hgr
        have HBW := Lib.hid (HB2.out.trans (HB.out.mono HB2.out.size))
        by_cases hlt : q < l.length
        · have hlt' : (q : Int) < (l.length : Int) := by omega
          have hrq : q < rs.length := by omega
          obtain ⟨b, o, rfl, c0, c1, c2, c3, c4⟩ := (HL.out.below HBW.out).at hlt
          obtain ⟨g, cap, hv, hcap, hcm2⟩ := owns_at (owns_below HROW.out HB.out) (by omega)
          cases hv
          have z0 : wr.cell? ⟨g, q, none⟩ = some rs[q].v := by
            have := (owns_below HROW.out HB.out).cellAt q (by omega)
            rw [this]
            simp [hrq]
          obtain ⟨hxl, hxc, _⟩ := (HTR.out.below HB.out) _ (List.getElem_mem hrq)
          have hxe : rs[q].l = (getH h l[q].m).1 := by
            have := congrArg (fun x => x[q]?) HRS.out
            simpa [hrq, hlt] using this
          have hgq := gone_none' HG.out _ (List.getElem_mem hlt)
          have hxr := (HOK.out.get hgq).1
          have hn := (want_zero (HK.out.right _ (List.getElem_mem hlt))).1
          have hnl : l[q].n.length ≤ 40000 := by have := part_short hn; omega
          have HT : Hid ((treesL h l).take (q + 1) = (treesL h l).take q ++ [(l[q].n, rs[q].l)]) := by
            show _ = _
            rw [List.take_succ_eq_append_getElem (by unfold treesL; simpa using hlt), hxe]
            simp [treesL]
          rw [← hxe] at hxr
          have hxs := tree_small hxr
          have HXS := Lib.hid hxs
          have HXL := Lib.hid hxl
          have hq0 : (0 : Int) ≤ (q : Int) := by omega
          clear hxe hgq hn hxr hxs hxl
          generalize l[q] = f at c0 c1 c2 c3 c4 hnl HT
          generalize rs[q] = x at z0 hxc HXL HXS HT
          obtain ⟨n, u, k, s, mm⟩ := f
          obtain ⟨xa, xc, xl⟩ := x
          simp only [Tl.v] at z0 hxc hnl HXL HXS HT
          go_wp2_with fail
          obtain ⟨W, hW⟩ : ∃ W, W = wr.alloc (wo n u k s mm) := ⟨_, rfl⟩
          have hwn := WantAt.new wr n u k s mm
          have hBX : Below wr.heap.size wr (wr.alloc (wo n u k s mm)) := (Below.refl _ _).alloc (Nat.le_refl _) _
          rw [← hW] at hwn hBX
          obtain ⟨g0, g1, g2, g3, g4⟩ := hwn
          have z1 : W.cell? ⟨g, q, none⟩ = some (.slice xa xl.length xc) := (hBX.cell (p := ⟨g, q, none⟩) (block_lt_of_cell z0)).trans z0
          rw [← hW]
          have HX := Lib.hid hBX
          have HBX := Lib.hid (HB.out.trans (hBX.mono HB.out.size))
          clear hBX hW c0 c1 c2 c3 c4 z0
          have hB0 : Below wr.heap.size wr W.drew := HX.out.drew
          have HSN := Lib.hid (graftAll_snoc (n, xl) HGR.out)
          have HGC := Lib.hid (graft_any p m xl am xa cm xc n _ ((HE.out.below HBW.out).below hB0).env (HLM.out.below hB0) (HXL.out.below hB0) hcm hxc HSM.out HXS.out hnl)
          have hk0 : wr.heap.size < W.heap.size := block_lt_of_cell g0
          have hgw : g < W.heap.size := block_lt_of_cell z1
          clear hB0
          by_cases hgz : (graftT m n xl).2.1 = 0
          · have HGT : Hid ((treeFault (graftT m n xl).1).1 = 0) := (graft_zero hgz).2.2.tree
            have HGS : Hid (graftT m n xl = ((graftT m n xl).1, 0, (graftT m n xl).2.2)) := by show graftT m n xl = _; rw [← hgz]
            have HG4 : Hid (graftAll [] ((treesL h l).take (q + 1)) = ((graftT m n xl).1, 0)) := by
              show _ = _
              rw [HT.out, HSN.out, if_neg (not_not_intro hgz)]
            clear hgz
            go_region_held3 (fun w' => w'.cell? ⟨wr.heap.size, 0, none⟩ = some (sv n) ∧ w'.cell? ⟨g, q, none⟩ = some (.slice xa xl.length xc)) (go_keep) (
              (go_at_call 106; (refine HGC.out.mono ?_); rintro e w4 ⟨h4, hb4⟩; obtain ⟨a4, c4, v4, rfl, hl4, hc4, hv4⟩ := h4.open HGS.out; obtain rfl := hv4.isNil; have d0 : w4.cell? ⟨wr.heap.size, 0, none⟩ = some (sv n) := (hb4.cell (p := ⟨wr.heap.size, 0, none⟩) hk0).trans g0; have d1 : w4.cell? ⟨g, q, none⟩ = some (.slice xa xl.length xc) := (hb4.cell (p := ⟨g, q, none⟩) hgw).trans z1; have HL4 := Lib.hid hl4; have HC4 := Lib.hid hc4; have HB4 := Lib.hid (HBX.out.drew.trans (hb4.mono HBX.out.drew.size)); clear hl4 hv4 hb4 h4 hc4))
            all_goals
              clear g0 g1 g2 g3 g4 z1 d0 d1
              go_wp2
              go_roundw
              case rel => exact ⟨q + 1, _, a4, c4, by omega, rfl, by go_num, rfl, HL4.out, HC4.out, HGT.out, HG4.out, HB4.out⟩
              case measure => simp [intOf]; omega
          · obtain ⟨c, hc⟩ : ∃ c, (graftT m n xl).2.1 = c + 1 := ⟨(graftT m n xl).2.1 - 1, by omega⟩
            have HGS : Hid (graftT m n xl = ([], c + 1, (graftT m n xl).2.2)) := by show graftT m n xl = _; rw [← hc, ← graft_bad hgz]
            have hgb : graftAll [] (treesL h l) = ([], c + 1) := by
              have e1 : graftAll [] ((treesL h l).take (q + 1)) = ([], c + 1) := by rw [HT.out, HSN.out, if_pos hgz, hc]
              have := graftAll_bad ((treesL h l).drop (q + 1)) (zs := (treesL h l).take (q + 1)) (out := []) (by rw [e1]; simp)
              rw [List.take_append_drop, e1] at this
              exact this
            have HTB := Lib.hid (bundle_graft HK.out HG.out hgb)
            clear hgz hc hgb
            go_region_held3 (fun w' => w'.cell? ⟨wr.heap.size, 0, none⟩ = some (sv n) ∧ w'.cell? ⟨g, q, none⟩ = some (.slice xa xl.length xc)) (go_keep) (
              (go_at_call 106; (refine HGC.out.mono ?_); rintro e w4 ⟨h4, hb4⟩; obtain ⟨a4, c4, v4, rfl, hl4, hc4, hv4⟩ := h4.open HGS.out; obtain ⟨T, uu, rfl⟩ := hv4.some (Nat.succ_ne_zero c); have d0 : w4.cell? ⟨wr.heap.size, 0, none⟩ = some (sv n) := (hb4.cell (p := ⟨wr.heap.size, 0, none⟩) hk0).trans g0; have d1 : w4.cell? ⟨g, q, none⟩ = some (.slice xa xl.length xc) := (hb4.cell (p := ⟨g, q, none⟩) hgw).trans z1; have HV := Lib.hid hv4; have HB4 := Lib.hid (HBX.out.drew.trans (hb4.mono HBX.out.drew.size)); clear hl4 hv4 hb4 h4 hc4))
            all_goals
              have HBW4 := Lib.hid (HB2.out.trans (HB4.out.mono HB2.out.size))
              have hcl : c + 1 ≤ 13 := by have := HV.out.le; omega
              clear g0 g1 g2 g3 g4 z1 d0 d1
              go_wp2_with fail
              refine (bare_of HV.out (HE.out.below HBW4.out).env).mono ?_
              rintro e w5 ⟨rfl, hb5⟩
              have HB5 := Lib.hid (HBW4.out.trans (hb5.mono HBW4.out.size))
              rw [errV_some p (Nat.succ_ne_zero c)]
              clear hb5
              go_wp2
              go_ret2
              refine ⟨⟨_, by rw [HTB.out] <;> rfl, ?_⟩, HB5.out⟩
              rw [HTB.out]
              exact .inr (.inl ⟨c, rfl, by omega, rfl, rfl⟩)
        · obtain rfl : q = l.length := by omega
          have hgr := HGR.out
          rw [List.take_of_length_le (by unfold treesL; simp)] at hgr
          have HTB := Lib.hid (bundle_pack HK.out HG.out hgr)
          have HTZ := Lib.hid (treeFault_zero HTM.out)
          have HMY := Lib.hid (make_yes HTM.out)
          clear hgr
          go_wp2_with fail
          refine (packMake_any p m am cm _ (HE.out.below HBW.out).env (HE.out.below HBW.out).sum HLM.out hcm HSM.out).mono ?_
          rintro e w4 ⟨⟨v4, rfl, hv4⟩, hb4⟩
          have HV := Lib.hid hv4
          have HB4 := Lib.hid (HBW.out.trans (hb4.mono HBW.out.size))
          rw [HMY.out]
          clear hv4 hb4
          go_wp2
          go_ret2
          refine ⟨⟨_, by rw [HTB.out] <;> rfl, ?_⟩, HB4.out⟩
          rw [HTB.out]
          have := HV.out
          rw [HTZ.out] at this
          exact this
  · have HT := Lib.hid (bundle_bad (h := h) hz)
    have HZ := Lib.hid hz
    clear hz
    go_enter Tryz.func49, Tryz.ntmps49
    go_wp2_with fail
    refine (lockCheck_any p l a ca _ HE.out HL.out hca HS.out).mono ?_
    rintro e w1 ⟨⟨v, rfl, hv⟩, hb1⟩
    obtain ⟨T, u, rfl⟩ := hv.some HZ.out
    have HV := Lib.hid hv
    clear hv
    go_wp2
    go_ret2
    exact ⟨⟨_, by rw [HT.out] <;> rfl, by rw [HT.out]; exact HV.out⟩, hb1⟩
end Go.Proofs.YtmcfkoenpikldaaGreatDoor
/-
  Trees and names that came in, as arguments of the laws on locks; two holdings of the program's, apart: over this seat's translation.
-/
namespace Go.Proofs.YtmcfkoenpikldaaGreatDoor
open Go.RowKit Go.Shelf Go.ChangeShapes Go.WideShapes Go.Deep

/-- Trees that came in. -/
structure CameT (w : World) (a : Option Addr) (rs : List Tl) : Prop where
  lies : rs ≠ [] → ∃ b o, a = some ⟨b, o, none⟩ ∧ ∀ k (h : k < rs.length), w.cell? ⟨b, o + k, none⟩ = some rs[k].v
  len : rs.length ≤ maxLen
  each : ∀ x ∈ rs, Came w x.a x.c x.l
theorem CameT.below {w w' : World} {a : Option Addr} {rs : List Tl} (h : CameT w a rs) (hb : Below w.heap.size w w') : CameT w' a rs := ⟨fun hl => by
  obtain ⟨b, o, e, hc⟩ := h.lies hl
  exact ⟨b, o, e, fun k hk => (hb.cell (p := ⟨b, o + k, none⟩) (block_lt_of_cell (hc k hk))).trans (hc k hk)⟩, h.len, fun x hx => (h.each x hx).below hb⟩
theorem CameT.at {w : World} {a : Option Addr} {rs : List Tl} (h : CameT w a rs) {k : Nat} (hk : k < rs.length) : ∃ b o, a = some ⟨b, o, none⟩ ∧ w.cell? ⟨b, o + k, none⟩ = some rs[k].v := by
  obtain ⟨b, o, e, hc⟩ := h.lies (fun e => by simp [e] at hk)
  exact ⟨b, o, e, hc k hk⟩
/-- Names that came in. -/
structure CameN (w : World) (a : Option Addr) (l : List (List UInt8)) : Prop where
  lies : TextsAt w a l
  len : l.length ≤ maxLen
  texts : ∀ t ∈ l, t.length ≤ maxLen
theorem CameN.below {w w' : World} {a : Option Addr} {l : List (List UInt8)} (h : CameN w a l) (hb : Below w.heap.size w w') : CameN w' a l := ⟨h.lies.below hb, h.len, h.texts⟩

/-- Are trees too many, or too long? -/
def longT (rs : List Tl) : Bool := decide (8 < rs.length) || rs.any fun x => decide (longL x.l ≠ 0)
theorem longT_many {rs : List Tl} (h : 8 < rs.length) : longT rs = true := by simp [longT, h]
theorem longT_at {rs : List Tl} {k : Nat} (hk : k < rs.length) (h : longL rs[k].l ≠ 0) : longT rs = true := by
  unfold longT
  rw [Bool.or_eq_true]
  right
  rw [List.any_eq_true]
  exact ⟨_, List.getElem_mem hk, by simpa using h⟩
theorem longT_no {rs : List Tl} (hn : ¬ 8 < rs.length) (h : ∀ k (hk : k < rs.length), longL rs[k].l = 0) : longT rs = false := by
  unfold longT
  rw [Bool.or_eq_false_iff]
  refine ⟨by simpa using hn, ?_⟩
  rw [List.any_eq_false]
  intro x hx
  obtain ⟨k, hk, rfl⟩ := List.getElem_of_mem hx
  simp [h k hk]
theorem longT_false {rs : List Tl} (h : longT rs = false) : rs.length ≤ 8 ∧ ∀ x ∈ rs, longL x.l = 0 := by
  unfold longT at h
  rw [Bool.or_eq_false_iff] at h
  refine ⟨by have := h.1; simp at this; omega, fun x hx => ?_⟩
  have := List.any_eq_false.1 h.2 x hx
  simpa using this

set_option maxRecDepth 100000 in
set_option maxHeartbeats 1000000 in
theorem longTrees_any (rs : List Tl) (a : Option Addr) (ca : Nat) (w : World) (hl : CameT w a rs) :
    Calls Tryz.prog 47 #[.slice a rs.length ca] w fun e w' => e = .returned (.bool (longT rs)) ∧ Below w.heap.size w w' := by
  have HL := Lib.hid hl
  have hlen : rs.length ≤ 9223372036854775807 := hl.len
  clear hl
  by_cases hm : 8 < rs.length
  · have HT := Lib.hid (longT_many hm)
    have hm' : (8 : Int) < (rs.length : Int) := by omega
    go_enter Tryz.func47, Tryz.ntmps47
    go_wp2
    go_ret
    exact ⟨by rw [HT.out]; rfl, Below.refl _ _⟩
  · have hm' : ¬ (8 : Int) < (rs.length : Int) := by omega
    go_enter Tryz.func47, Tryz.ntmps47
    go_wp2_with fail
    go_loopw [3] (fun i wr => ∃ q : Nat, q ≤ rs.length ∧ i = .int .i64 q ∧ (∀ k (hk : k < rs.length), k < q → longL rs[k].l = 0) ∧ Below w.heap.size w wr) (fun i _ => rs.length - (intOf i).toNat)
    case atStart => exact ⟨0, by omega, rfl, fun _ _ h => by omega, Below.refl _ _⟩
    case round =>
      obtain ⟨q, hq, rfl, h0, hb⟩ := hrel
      have H0 := Lib.hid h0
      have HB := Lib.hid hb
      clear h0 hb
      by_cases hlt : q < rs.length
      · have hlt' : (q : Int) < (rs.length : Int) := by omega
        obtain ⟨b, o, rfl, c0⟩ := (HL.out.below HB.out).at hlt
        have HC := Lib.hid ((HL.out.below HB.out).each _ (List.getElem_mem hlt))
        have HN : Hid (longL rs[q].l = 0 → ∀ k (hk : k < rs.length), k < q + 1 → longL rs[k].l = 0) := fun e k hk hkq => by
          by_cases ek : k = q
          · subst ek; exact e
          · exact H0.out k hk (by omega)
        have HY : Hid (longL rs[q].l ≠ 0 → longT rs = true) := fun e => longT_at hlt e
        generalize rs[q] = x at c0 HC HN HY
        obtain ⟨xa, xc, xl⟩ := x
        simp only [Tl.v] at c0 HC HN HY
        rcases longL_or xl with hx | hx
        · have HX : Hid (longL xl = 0) := by show longL xl = 0; omega
          go_wp2_with fail
          refine (long_is HC.out 0 hx).mono ?_
          rintro e w1 ⟨rfl, rfl⟩
          clear hx
          go_wp2
          go_roundw
          case rel => exact ⟨q + 1, by omega, by go_num, HN.out HX.out, HB.out⟩
          case measure => simp [intOf]; omega
        · have HX : Hid (longT rs = true) := HY.out (by omega)
          go_wp2_with fail
          refine (long_is HC.out 1 hx).mono ?_
          rintro e w1 ⟨rfl, rfl⟩
          clear hx
          go_wp2
          go_ret
          exact ⟨by rw [HX.out]; rfl, HB.out⟩
      · obtain rfl : q = rs.length := by omega
        have HX := Lib.hid (longT_no hm (fun k hk => H0.out k hk hk))
        clear H0
        go_wp2
        go_ret
        exact ⟨by rw [HX.out]; rfl, HB.out⟩

/-- Two holdings of the program's, apart, above what came in. -/
structure TwoP (w0 W : World) (nb : Nat) (S R : Nat → Prop) (s : Hs) (ob : Nat) (S2 R2 : Nat → Prop) (o : Hs) : Prop where
  below : Below w0.heap.size w0 W
  hh : HeldAt W nb S R s
  ho : HeldAt W ob S2 R2 o
  hb : ∀ b, S b ∨ R b → w0.heap.size ≤ b
  obs : ∀ b, S2 b ∨ R2 b → w0.heap.size ≤ b
  okh : OkH s
  oko : OkH o
  a1 : ∀ b, S b → ¬ (S2 b ∨ R2 b)
  a2 : ∀ b, S2 b → ¬ (S b ∨ R b)
theorem TwoP.swap {w0 W : World} {nb : Nat} {S R : Nat → Prop} {s : Hs} {ob : Nat} {S2 R2 : Nat → Prop} {o : Hs} (T : TwoP w0 W nb S R s ob S2 R2 o) : TwoP w0 W ob S2 R2 o nb S R s := ⟨T.below, T.ho, T.hh, T.obs, T.hb, T.oko, T.okh, T.a2, T.a1⟩
theorem TwoP.quiet {w0 W W' : World} {nb : Nat} {S R : Nat → Prop} {s : Hs} {ob : Nat} {S2 R2 : Nat → Prop} {o : Hs} (T : TwoP w0 W nb S R s ob S2 R2 o) (hb : Below W.heap.size W W') : TwoP w0 W' nb S R s ob S2 R2 o :=
  ⟨T.below.trans (hb.mono T.below.size), T.hh.keep (T := fun _ => False) (Kept.of_below hb) (fun _ _ f => f), T.ho.keep (T := fun _ => False) (Kept.of_below hb) (fun _ _ f => f), T.hb, T.obs, T.okh, T.oko, T.a1, T.a2⟩
theorem TwoP.step {w0 W W' : World} {nb : Nat} {S R : Nat → Prop} {s s' : Hs} {ob : Nat} {S2 R2 S' R' : Nat → Prop} {o : Hs} (T : TwoP w0 W nb S R s ob S2 R2 o) (l : HeldLeft HeldAt W nb S R s' W' S' R') (hs : OkH s') : TwoP w0 W' nb S' R' s' ob S2 R2 o := by
  have hz := T.below.size
  refine ⟨T.below.trans (l.below _ hz fun b hb => T.hb b (.inl hb)), l.held, T.ho.keep l.kept fun b hb hS => T.a1 b hS hb, fun b hb => ?_, T.obs, hs, T.oko, fun b hb hb2 => ?_, fun b hb hb2 => ?_⟩
  · rcases hb with hb | hb
    · exact (l.own b hb).elim (fun e => T.hb b (.inl e)) (Nat.le_trans hz)
    · rcases l.ownR b hb with e | e | e
      · exact T.hb b (.inl e)
      · exact T.hb b (.inr e)
      · exact Nat.le_trans hz e
  · have hlt := T.ho.lt b hb2
    rcases l.own b hb with e | e
    · exact T.a1 b e hb2
    · omega
  · have hlt := T.ho.lt b (.inl hb)
    rcases hb2 with hb2 | hb2
    · rcases l.own b hb2 with e | e
      · exact T.a2 b hb (.inl e)
      · omega
    · rcases l.ownR b hb2 with e | e | e
      · exact T.a2 b hb (.inl e)
      · exact T.a2 b hb (.inr e)
      · omega
/-- Two that are new. -/
theorem TwoP.new {w0 W1 W2 : World} {nb : Nat} {S R : Nat → Prop} {s : Hs} {ob : Nat} {S2 R2 : Nat → Prop} {o : Hs} (hb1 : Below w0.heap.size w0 W1) (h : HeldAt W1 nb S R s) (hs : ∀ b, S b ∨ R b → w0.heap.size ≤ b) (hb2 : Below W1.heap.size W1 W2) (ho : HeldAt W2 ob S2 R2 o) (hs2 : ∀ b, S2 b ∨ R2 b → W1.heap.size ≤ b) (okh : OkH s) (oko : OkH o) : TwoP w0 W2 nb S R s ob S2 R2 o := by
  have hz := hb1.size
  refine ⟨hb1.trans (hb2.mono hz), h.keep (T := fun _ => False) (Kept.of_below hb2) (fun _ _ f => f), ho, hs, fun b hb => Nat.le_trans hz (hs2 b hb), okh, oko, fun b hb hb2 => ?_, fun b hb hb2 => ?_⟩
  · have := h.lt b (.inl hb); have := hs2 b hb2; omega
  · have := h.lt b hb2; have := hs2 b (.inl hb); omega
/-- What came in is apart from what is written. -/
theorem TwoP.came {w0 W : World} {nb : Nat} {S R : Nat → Prop} {s : Hs} {ob : Nat} {S2 R2 : Nat → Prop} {o : Hs} (T : TwoP w0 W nb S R s ob S2 R2 o) {a : Option Addr} {l : List F} (hl : LiesAt w0 a l) (hn : l ≠ []) : ∀ b o t, a = some ⟨b, o, t⟩ → ¬ S b := fun b o' t e hS => by
  obtain ⟨j, u, hc⟩ := lies_cell hl hn e
  have h1 : b < w0.heap.size := block_lt_of_cell hc
  have h2 := T.hb b (.inl hS)
  omega
end Go.Proofs.YtmcfkoenpikldaaGreatDoor
/-
  Trees and names among the arguments of the laws on locks, opened: over this seat's translation.
-/
namespace Go.Proofs.YtmcfkoenpikldaaGreatDoor
open Go.RowKit Go.Shelf Go.ChangeShapes Go.WideShapes Go.Deep

theorem Tryz.cellsTree : Tryz.prog.cellsOf 43 = 1 := by kernel_rfl

set_option maxRecDepth 100000 in
theorem open_trees {H : Type} {enc : TypeId × Value → H} {W : World} {base : Nat} {sp : Nat → Bool} {held : Bool} {r : Reach} {b0 : Nat} {v : Value} {d : DataW H} {ps : List MemPlace} (hval : Value.okWide Tryz.prog W r b0 88 v) (hd : DataW.Trod enc Tryz.prog W base sp held 88 v d ps) :
    ∃ rs a ca, v = .slice a (List.length rs) ca ∧ CameT W a rs := by
  obtain ⟨a0, len0, cap0, rfl⟩ := okWide_slice Tryz.underlying88 hval
  obtain ⟨fuel, hf⟩ := hd
  rcases open_slice Tryz.underlying88 hf with ⟨hc, _⟩ | ⟨a, len, cap, m, n, D, Pl, hc, _, hl, hm, hmm, _, hx⟩
  · have hc' : Value.slice a0 len0 cap0 = .slice none 0 0 := by simpa [Value.cells] using hc
    cases hc'
    exact ⟨[], none, 0, rfl, fun h => absurd rfl h, Nat.zero_le _, fun f hf => by simp at hf⟩
  · have hc' : Value.slice a0 len0 cap0 = .slice (some a) len cap := by simpa [Value.cells] using hc
    cases hc'
    have hlm : len0 ≤ m := by rw [hmm]; split <;> omega
    have each : ∀ i, i < len0 → ∃ x : Tl, W.cell? ((a.add (i * 1)).add 0) = some x.v ∧ Came W x.a x.c x.l := fun i hi => by
      obtain ⟨cs', h1, h2⟩ := hx i (by omega)
      rw [Tryz.cellsTree] at h1
      obtain ⟨_, hlen, hcell⟩ := World.cells?_some h1
      have hl1 : ∃ v0, cs' = [v0] := List.length_eq_one_iff.1 hlen
      obtain ⟨v0, rfl⟩ := hl1
      obtain ⟨l, b, c, e1, hc⟩ := open_tree h2
      refine ⟨⟨b, c, l⟩, ?_, hc⟩
      have := hcell 0 (by omega)
      rw [this, e1]
      rfl
    haveI : Inhabited Tl := ⟨⟨none, 0, []⟩⟩
    obtain ⟨q, hq⟩ := choose_lt each
    refine ⟨(List.range len0).map q, some a, cap0, by simp, ?_, by rw [List.length_map, List.length_range]; omega, fun f hf => ?_⟩
    · intro hne
      have hpos : 0 < len0 := by
        cases len0 with
        | zero => exact absurd rfl hne
        | succ k => omega
      obtain ⟨b, o, spot⟩ := a
      have hspot : spot = none := by
        have := World.cell?_spot (hq 0 hpos).1
        simpa [Addr.add] using this
      subst hspot
      refine ⟨b, o, rfl, fun k hk => ?_⟩
      have hk' : k < len0 := by simpa using hk
      have hg : ((List.range len0).map q)[k] = q k := by simp
      rw [hg]
      have hadd : ((⟨b, o, none⟩ : Addr).add (k * 1)).add 0 = ⟨b, o + k, none⟩ := by rw [Addr.add_lit, Addr.add_lit, Nat.mul_one, Nat.add_zero]
      rw [← hadd]
      exact (hq k hk').1
    · obtain ⟨i, hi, rfl⟩ := List.mem_map.1 hf
      exact (hq i (List.mem_range.1 hi)).2
set_option maxRecDepth 100000 in
theorem open_names {H : Type} {enc : TypeId × Value → H} {W : World} {base : Nat} {sp : Nat → Bool} {held : Bool} {r : Reach} {b0 : Nat} {v : Value} {d : DataW H} {ps : List MemPlace} (hval : Value.okWide Tryz.prog W r b0 35 v) (hd : DataW.Trod enc Tryz.prog W base sp held 35 v d ps) :
    ∃ (ns : List (List UInt8)) (a : Option Addr) (ca : Nat), v = .slice a ns.length ca ∧ CameN W a ns := by
  obtain ⟨a0, len0, cap0, rfl⟩ := okWide_slice Tryz.underlying35 hval
  obtain ⟨fuel, hf⟩ := hd
  obtain ⟨t, a, c, e, h1, h2, h3, h4, _⟩ := open_texts hf
  exact ⟨t, a, c, e, h1, h3, h4⟩
end Go.Proofs.YtmcfkoenpikldaaGreatDoor
