/-
  The law LockLoads, whatever it is called with: over this seat's translation.
-/
import Derived.Test.YtmcfkoenpikldaaGreatDoorPkLockBundleLockMemLockOpened
import Derived.Test.YtmcfkoenpikldaaGreatDoorLockPureLoadPureLoadsPure
import Derived.Test.YtmcfkoenpikldaaGreatDoorPkLockSetPkLockText
import Derived.Test.YtmcfkoenpikldaaGreatDoorPkLockLoad
import Derived.Test.YtmcfkoenpikldaaGreatDoorPkSame
namespace Go.Proofs.YtmcfkoenpikldaaGreatDoor
open Go.RowKit Go.Shelf

/-- A lock of the law's: its names from the arguments, its link and kind its own. -/
abbrev wantN (n : List UInt8) (m : Int) : Wt := ⟨n, [104, 116, 116, 112, 58, 47, 47, 104, 47, 120], [112, 97, 99, 107], 0, m⟩
theorem lock_small {l : List Wt} (h : Lock l) (hu : ∀ x ∈ l, x.u.length ≤ 90000) : SmallW l := ⟨by have := h.few; omega, fun x hx => ⟨by have := part_le (want_zero (h.right x hx)).1; omega, hu x hx⟩⟩
theorem putH_zero {s : Hs} {l : List F} (h : (putH s l).2.2.1 = 0) : (putH s l).2.2.2 = -1 := by
  unfold putH at h ⊢
  split
  · rename_i hz
    rw [if_pos hz] at h
    exact absurd h hz
  · split
    · rfl
    · split <;> rfl
theorem setL_place {l : List Wt} {x : Wt} (h : (setL l x).2.1 = 0) : (setL l x).2.2 = -1 := by
  unfold setL at h ⊢
  split
  · rename_i hz
    rw [if_pos hz] at h
    exact absurd h hz
  · split
    · rfl
    · split <;> rfl
/-- What the bundle of a lock tells where there is an error: nothing. -/
theorem bundle_none {h : Hs} {l : List Wt} (hc : (bundleL h l).2.1 ≠ 0) : (bundleL h l).1 = [] := by
  unfold bundleL at hc ⊢
  split
  · rfl
  · rename_i hz
    rw [if_neg hz] at hc
    cases hg : goneL h l with
    | some i => rfl
    | none =>
      rw [hg] at hc
      dsimp only at hc ⊢
      split
      · rfl
      · rename_i hz2
        rw [if_neg hz2] at hc
        exact absurd rfl hc
theorem bundle_short {h : Hs} {l : List Wt} (hl : Lock l) (hc : (bundleL h l).2.1 = 0) : (bundleL h l).1.length ≤ 20000 := by
  obtain ⟨_, m, hm, he⟩ := bundle_fine hl hc
  rw [he]
  exact pack_small (graftAll_tree tree_nil hm)
theorem bundle_read {h : Hs} {l : List Wt} (hh : OkH h) (hl : Lock l) (hc : (bundleL h l).2.1 = 0) : ∀ x ∈ l, (treeFault (underL (readP (bundleL h l).1).1 x.n)).1 = 0 := by
  obtain ⟨hg, m, hm, he⟩ := bundle_fine hl hc
  have htm := graftAll_tree tree_nil hm
  rw [he, readP_pack htm]
  intro x hx
  have hz1 : ∀ z ∈ treesL h l, isPart z.1 = true := fun z hz => by
    obtain ⟨y, hy, rfl⟩ := List.mem_map.1 hz
    exact (want_zero (hl.right y hy)).1
  have hnd : ((treesL h l).map (·.1)).Nodup := by
    have : (treesL h l).map (·.1) = l.map Wt.n := by unfold treesL; rw [List.map_map]; rfl
    rw [this]
    exact names_once hl
  have hun := graftAll_under tree_nil hm hz1 hnd (fun z _ => by simp [underL]) (x.n, (getH h x.m).1) (List.mem_map_of_mem hx)
  have hun' : underL m x.n = (getH h x.m).1 := hun
  rw [hun']
  exact (hh.get (gone_none hg x hx)).1

open Classical in
theorem same_self (l : List F) (a b : Option Addr) (ca cb : Nat) (w : World) (hl : LiesAt w a l) (hm : LiesAt w b l) (hll : l.length ≤ 100000) :
    Calls Tryz.prog 52 #[.slice a l.length ca, .slice b l.length cb] w fun e w' => e = .returned (.bool true) ∧ Below w.heap.size w w' := by
  have h := same_any l l a b ca cb w hl hm hll hll
  rwa [decide_eq_true (rfl : l = l)] at h
theorem wlies_cell {w : World} {a : Option Addr} {l : List Wt} (h : WLies w a l) (hl : l ≠ []) {b o : Nat} {t : Option Nat} (e : a = some ⟨b, o, t⟩) : ∃ j v, w.cell? ⟨b, j, none⟩ = some v := by
  obtain ⟨b', o', e', hc⟩ := h hl
  rw [e] at e'
  cases e'
  exact ⟨_, _, (hc 0 (List.length_pos_iff.2 hl)).1⟩
theorem wlies_left {w w' : World} {S : Nat → Prop} {a : Option Addr} {l : List Wt} (h : WLies w a l) (k : Kept S w w') (hS : l ≠ [] → ∀ b o t, a = some ⟨b, o, t⟩ → ¬ S b) : WLies w' a l := fun hl => by
  obtain ⟨b, o, e, hc⟩ := h hl
  have hlt : b < w.heap.size := block_lt_of_cell (hc 0 (List.length_pos_iff.2 hl)).1
  have hb := k.block b hlt (hS hl b o none e)
  have hcell : ∀ j, w'.cell? ⟨b, j, none⟩ = w.cell? ⟨b, j, none⟩ := fun j => by simp [World.cell?, hb]
  exact ⟨b, o, e, fun j hj => by
    obtain ⟨h0, h1, h2, h3, h4⟩ := hc j hj
    exact ⟨(hcell _).trans h0, (hcell _).trans h1, (hcell _).trans h2, (hcell _).trans h3, (hcell _).trans h4⟩⟩

set_option maxRecDepth 100000 in
set_option maxHeartbeats 2000000 in
theorem lockLoads_long (p : Nat → Addr) (rs : List Tl) (a : Option Addr) (ca : Nat) (ns : List (List UInt8)) (na : Option Addr) (nc : Nat) (w : World) (hE : WEnv p w) (hl : CameT w a rs) (hn : CameN w na ns) (h : longT rs = true ∨ (longT rs = false ∧ 8 < ns.length)) :
    Calls Tryz.prog 6 #[.slice a rs.length ca, .slice na ns.length nc] w fun e w' => e = .returned (.bool true) ∧ Below w.heap.size w w' := by
  have HE := Lib.hid hE
  have HL := Lib.hid hl
  have hnl : ns.length ≤ 9223372036854775807 := hn.len
  have HF := Lib.hid h
  clear hE hl hn h
  go_enter Tryz.func6, Tryz.ntmps6
  go_wp2_with fail
  refine (locked_any p _ HE.out).mono ?_
  rintro e w1 ⟨rfl, hb1⟩
  have HB1 := Lib.hid hb1
  have HLT := Lib.hid (longTrees_any rs a ca _ (HL.out.below hb1))
  clear hb1
  rcases HF.out with hx | ⟨hx, hm⟩
  · rw [hx] at HLT
    clear hx HF
    go_wp2_with fail
    refine HLT.out.mono ?_
    rintro e w2 ⟨rfl, hb2⟩
    have HB2 := Lib.hid (HB1.out.trans (hb2.mono HB1.out.size))
    clear hb2 HLT
    go_wp2
    go_ret
    exact ⟨rfl, HB2.out⟩
  · rw [hx] at HLT
    have hm' : (8 : Int) < (ns.length : Int) := by omega
    clear hx HF
    go_wp2_with fail
    refine HLT.out.mono ?_
    rintro e w2 ⟨rfl, hb2⟩
    have HB2 := Lib.hid (HB1.out.trans (hb2.mono HB1.out.size))
    clear hb2 HLT
    go_wp2
    go_ret
    exact ⟨rfl, HB2.out⟩

set_option maxRecDepth 100000 in
set_option maxHeartbeats 8000000 in
theorem lockLoads_main (p : Nat → Addr) (rs : List Tl) (a : Option Addr) (ca : Nat) (ns : List (List UInt8)) (na : Option Addr) (nc : Nat) (w : World) (hE : WEnv p w) (hl : CameT w a rs) (hn : CameN w na ns) (h1 : longT rs = false) (h2 : ns.length ≤ 8) :
    Calls Tryz.prog 6 #[.slice a rs.length ca, .slice na ns.length nc] w fun e w' => e = .returned (.bool true) ∧ Below w.heap.size w w' := by
  have HE := Lib.hid hE
  have HL := Lib.hid hl
  have HN := Lib.hid hn
  obtain ⟨hr8, hrl⟩ := longT_false h1
  have HRL := Lib.hid hrl
  have HF := Lib.hid h1
  have h2' : ¬ (8 : Int) < (ns.length : Int) := by omega
  clear hE hl hn h1 hrl
  go_enter Tryz.func6, Tryz.ntmps6
  go_wp2_with fail
  refine (locked_any p _ HE.out).mono ?_
  rintro e w1 ⟨rfl, hb1⟩
  have HB1 := Lib.hid hb1
  have HLT := Lib.hid (longTrees_any rs a ca _ (HL.out.below hb1))
  rw [HF.out] at HLT
  clear hb1
  go_wp2_with fail
  refine HLT.out.mono ?_
  rintro e w2 ⟨rfl, hb2⟩
  have HB2 := Lib.hid (HB1.out.trans (hb2.mono HB1.out.size))
  clear hb2 HLT
  go_wp2_with fail
  refine (heldNew_any _ (40 : Int)).mono ?_
  rintro e w3 ⟨nb, S0, R0, rfl, h3, hs3, hb3⟩
  have HB3 := Lib.hid (HB2.out.trans (hb3.mono HB2.out.size))
  have HH3 := Lib.hid h3
  have hz2 := HB2.out.size
  have HS3 : Hid (∀ b, S0 b ∨ R0 b → w.heap.size ≤ b) := fun b hb => Nat.le_trans hz2 (hs3 b hb)
  clear h3 hs3 hb3
  go_wp2_with fail
  refine (heldNew_any _ (40 : Int)).mono ?_
  rintro e w4 ⟨ob, SO, RO, rfl, h4, hs4, hb4⟩
  have HT := Lib.hid (TwoP.new HB3.out HH3.out HS3.out hb4 h4 hs4 (OkH.zero 40) (OkH.zero 40))
  clear h4 hs4 hb4 HH3 HS3 HB3
  go_wp2_with fail
  go_loopw [8, 9] (fun sw i wr => ∃ (q : Nat) (S R : Nat → Prop) (s : Hs) (l : List Wt) (aw : Option Addr) (cw : Nat), q ≤ rs.length ∧ q ≤ ns.length ∧ i = .int .i64 q ∧ sw = .slice aw l.length cw ∧ TwoP w wr nb S R s ob SO RO (Hs.none 40) ∧ WLies wr aw l ∧ l.length ≤ cw ∧ Lock l ∧ (∀ x ∈ l, x.u.length ≤ 90000) ∧ (l ≠ [] → ∀ b o t, aw = some ⟨b, o, t⟩ → ¬ S b ∧ ¬ SO b)) (fun _ i _ => rs.length - (intOf i).toNat)
  case atStart => exact ⟨0, S0, R0, _, [], none, 0, by omega, by omega, rfl, rfl, HT.out, WLies.nil _ _, Nat.le_refl _, Lock.nil, fun x hx => by simp at hx, fun h => absurd rfl h⟩
  case round =>
    obtain ⟨q, S, R, s, l, aw, cw, hq, hqn, rfl, rfl, ht, hla, hlc, hlk, hlu, hap⟩ := hrel
    have HT := Lib.hid ht
    have HLA := Lib.hid hla
    have HK := Lib.hid hlk
    have HU := Lib.hid hlu
    have HAP := Lib.hid hap
    have HSM := Lib.hid (lock_small hlk hlu)
    clear ht hla hlk hlu hap
    by_cases hlt : q < rs.length ∧ q < ns.length
    · obtain ⟨hlt1, hlt2⟩ := hlt
      have hlt1' : (q : Int) < (rs.length : Int) := by omega
      have hlt2' : (q : Int) < (ns.length : Int) := by omega
      have HLW := Lib.hid (HL.out.below HT.out.below)
      obtain ⟨b, o, rfl, c0⟩ := HLW.out.at hlt1
      obtain ⟨b2, o2, rfl, d9⟩ := HN.out.lies.at hlt2
      have HD : Hid (∀ W, Below w.heap.size w W → W.cell? ⟨b2, o2 + q, none⟩ = some (sv ns[q])) := fun W hW => (hW.cell (p := ⟨b2, o2 + q, none⟩) (block_lt_of_cell d9)).trans d9
      have d0 := HD.out _ HT.out.below
      clear d9
      have HC := Lib.hid (HLW.out.each _ (List.getElem_mem hlt1))
      have HC0 := Lib.hid (HL.out.each _ (List.getElem_mem hlt1))
      have hx0 := HRL.out _ (List.getElem_mem hlt1)
      have hnm := HN.out.texts _ (List.getElem_mem hlt2)
      clear HLW
      generalize rs[q] = x at c0 HC HC0 hx0
      generalize ns[q] = nm at d0 hnm HD
      obtain ⟨xa, xc, xl⟩ := x
      simp only [Tl.v] at c0 HC HC0 hx0
      have HXS := Lib.hid (small_of_long (l := xl) (by omega))
      have hnm' : nm.length ≤ 9223372036854775807 := hnm
      clear hnm hx0
      by_cases hlong : 30 < nm.length
      · have hlong' : (30 : Int) < (nm.length : Int) := by omega
        go_wp2
        go_ret
        exact ⟨rfl, HT.out.below⟩
      · have hlong' : ¬ (30 : Int) < (nm.length : Int) := by omega
        go_wp2_with fail
        refine ((heldCore p).put _ nb S R s xl xa xc HT.out.hh ⟨(HE.out.below HT.out.below).env, (HE.out.below HT.out.below).sum⟩ HT.out.okh HC.out.lies HC.out.cap HC.out.nil HXS.out (fun hne b o t e => HT.out.came HC0.out.lies hne b o t e)).mono ?_
        rintro e w5 ⟨⟨v5, rfl, hv5⟩, S5, R5, l5⟩
        have HT5 := Lib.hid (HT.out.step l5 (HT.out.okh.put xl))
        have HLA5 : Hid (WLies w5 aw l) := wlies_left HLA.out l5.kept (fun hne b o t e => (HAP.out hne b o t e).1)
        have HAP5 : Hid (l ≠ [] → ∀ b o t, aw = some ⟨b, o, t⟩ → ¬ S5 b ∧ ¬ SO b) := fun hne b o t e => ⟨fun hS => (l5.own b hS).elim (HAP.out hne b o t e).1 (fun hz => by
          obtain ⟨j, u, hc⟩ := wlies_cell HLA.out hne e
          have hlt : b < wr.heap.size := block_lt_of_cell hc
          omega), (HAP.out hne b o t e).2⟩
        by_cases hp0 : (putH s xl).2.2.1 = 0
        · rw [hp0] at hv5
          have := hv5.isNil
          subst this
          clear hv5 l5 hp0
          generalize (putH s xl).2.1 = sm
          generalize (putH s xl).1 = s5 at HT5
          have d5 := HD.out _ HT5.out.below
          go_wp2_with fail
          refine (lockSet_new p l aw cw nm [104, 116, 116, 112, 58, 47, 47, 104, 47, 120] [112, 97, 99, 107] 0 (sm : Int) _ (HE.out.below HT5.out.below) HLA5.out hlc HSM.out (by omega) (by simp)).mono ?_
          rintro e w6 ⟨⟨a6, c6, v6, rfl, hl6, hc6, hv6, hn6⟩, hb6⟩
          have HT6 := Lib.hid (HT5.out.quiet hb6)
          by_cases hp1 : (setL l (wantN nm sm)).2.1 = 0
          · obtain ⟨he, hwc, hlk6⟩ := HK.out.put hp1
            rw [hp1] at hv6
            have := hv6.isNil
            subst this
            have HL6 : Hid (WLies w6 a6 (putL l (wantN nm sm))) := by rw [← he]; exact hl6
            have HC6 : Hid ((putL l (wantN nm sm)).length ≤ c6) := by rw [← he]; exact hc6
            have HAP6 : Hid (∀ b o t, a6 = some ⟨b, o, t⟩ → ¬ S5 b ∧ ¬ SO b) := fun b o t e => by
              have h6 := hn6 b o t e
              exact ⟨fun hS => by have := HT5.out.hh.lt b (.inl hS); omega, fun hS => by have := HT5.out.ho.lt b (.inl hS); omega⟩
            have HLE : Hid ((setL l (wantN nm sm)).1.length = (putL l (wantN nm sm)).length) := by show _ = _; rw [he]
            have HK6 := Lib.hid hlk6
            have HU6 : Hid (∀ x ∈ putL l (wantN nm sm), x.u.length ≤ 90000) := fun x hx => by
              rcases putL_mem hx with rfl | hx
              · simp
              · exact HU.out x hx
            clear hv6 hl6 hc6 hb6 he hwc hlk6 hp1 hn6
            rw [HLE.out]
            clear HLE
            generalize putL l (wantN nm sm) = l6 at HL6 HC6 HK6 HU6 ⊢
            go_wp2
            go_roundw
            case rel => exact ⟨q + 1, S5, R5, s5, l6, a6, c6, by omega, by omega, by go_num, rfl, HT6.out, HL6.out, HC6.out, HK6.out, HU6.out, fun _ => HAP6.out⟩
            case measure => simp [intOf]; omega
          · obtain ⟨T, u, rfl⟩ := hv6.some hp1
            have HLA6 := Lib.hid (HLA5.out.below hb6)
            clear hv6 hl6 hc6 hb6 hp1 hn6
            generalize (setL l (wantN nm sm)).1.length = z6
            go_wp2
            go_roundw
            case rel => exact ⟨q + 1, S5, R5, s5, l, aw, cw, by omega, by omega, by go_num, rfl, HT6.out, HLA6.out, hlc, HK.out, HU.out, HAP5.out⟩
            case measure => simp [intOf]; omega
        · obtain ⟨T, u, rfl⟩ := hv5.some hp0
          clear hv5 l5 hp0
          generalize (putH s xl).2.1 = sm
          generalize (putH s xl).1 = s5 at HT5
          go_wp2
          go_roundw
          case rel => exact ⟨q + 1, S5, R5, s5, l, aw, cw, by omega, by omega, by go_num, rfl, HT5.out, HLA5.out, hlc, HK.out, HU.out, HAP5.out⟩
          case measure => simp [intOf]; omega
    · have hcond : (q < rs.length ∧ ¬ q < ns.length) ∨ ¬ q < rs.length := by omega
      clear hlt
      rcases hcond with ⟨hA, hB⟩ | hA
      · have hA' : (q : Int) < (rs.length : Int) := by omega
        have hB' : ¬ (q : Int) < (ns.length : Int) := by omega
        go_wp2_with fail
        refine (lockBundle_any p s nb S R l aw cw _ HT.out.hh (HE.out.below HT.out.below) HT.out.okh HLA.out hlc HSM.out).mono ?_
        rintro e w5 ⟨⟨v5, rfl, hv5⟩, hb5⟩
        have HT5 := Lib.hid (HT.out.quiet hb5)
        have HLA5 := Lib.hid (HLA.out.below hb5)
        by_cases hc : (bundleL s l).2.1 = 0
        · obtain ⟨o, hld, hoko, hol, hget, hg0, hbo⟩ := load_fine HT5.out.okh HK.out hc
          have HLEN := Lib.hid (bundle_short HK.out hc)
          have HRD := Lib.hid (bundle_read HT5.out.okh HK.out hc)
          have HOO := Lib.hid hoko
          have HOL := Lib.hid hol
          have HGET := Lib.hid hget
          have HG0 := Lib.hid hg0
          have hbs : bundleL s l = ((bundleL s l).1, 0, (bundleL s l).2.2) := by rw [← hc]
          have HBO : Hid (bundleL o l = ((bundleL s l).1, 0, (bundleL s l).2.2)) := hbo.trans hbs
          have HLD := Lib.hid hld
          rw [hc] at hv5
          have := hv5.isNil
          subst this
          clear hv5 hb5 hc hld hoko hol hget hg0 hbo hbs HT HLA
          generalize (bundleL s l).2.2 = pl at HBO
          generalize (bundleL s l).1 = txt at HLEN HRD HBO HLD ⊢
          have hlt20 : ¬ (20000 : Int) < (txt.length : Int) := by have := HLEN.out; omega
          go_wp2_with fail
          refine (lockLoad_any p (Hs.none 40) ob SO RO l aw cw txt _ HT5.out.ho (HE.out.below HT5.out.below) HT5.out.oko HLA5.out hlc HSM.out (by have := HLEN.out; omega) (fun _ => HRD.out)).mono ?_
          rintro e w6 ⟨⟨v6, rfl, hv6⟩, S6, R6, l6⟩
          rw [HLD.out] at hv6 l6
          have := hv6.isNil
          subst this
          have HT6 := Lib.hid (HT5.out.swap.step l6 HOO.out).swap
          have HLA6 := Lib.hid (wlies_left HLA5.out l6.kept (fun hne b o t e => (HAP.out hne b o t e).2))
          clear hv6 l6 HLA5 HT5 HLD HRD
          go_wp2_with fail
          have h20 := HK.out.few
          go_loopw [15] (fun i wr2 => ∃ q2 : Nat, q2 ≤ l.length ∧ i = .int .i64 q2 ∧ TwoP w wr2 nb S R s ob S6 R6 o ∧ WLies wr2 aw l) (fun i _ => l.length - (intOf i).toNat)
          case atStart => exact ⟨0, by omega, rfl, HT6.out, HLA6.out⟩
          case round =>
            obtain ⟨q2, hq2, rfl, ht2, hla2⟩ := hrel
            have HT7 := Lib.hid ht2
            have HLA7 := Lib.hid hla2
            clear ht2 hla2 HT6 HLA6
            by_cases hl2 : q2 < l.length
            · have hl2' : (q2 : Int) < (l.length : Int) := by omega
              obtain ⟨bw, ow, rfl, c0, c1, c2, c3, c4⟩ := HLA7.out.at hl2
              have HCL : Hid (∀ W, Below w.heap.size w W → WLies W (some ⟨bw, ow, none⟩) l → W.cell? ⟨bw, ow + q2 * 5 + 4, none⟩ = some (.int .i64 l[q2].m)) := fun W _ hW => by
                obtain ⟨b', o', e', _, _, _, _, k4⟩ := hW.at hl2
                cases e'
                exact k4
              have hwf := sum_wf (want_zero (HK.out.right _ (List.getElem_mem hl2))).2.2.2.2.2
              have HGE := Lib.hid (HGET.out _ (List.getElem_mem hl2))
              have HG := Lib.hid (HG0.out _ (List.getElem_mem hl2))
              generalize l[q2] = f at c0 c1 c2 c3 c4 hwf HGE HG HCL
              obtain ⟨fn, fu, fk, fs, fm⟩ := f
              simp only at hwf c4 HGE HG HCL
              clear c0 c1 c2 c3
              go_wp2_with fail
              refine ((heldCore p).get _ nb S R s fm HT7.out.hh ⟨(HE.out.below HT7.out.below).env, (HE.out.below HT7.out.below).sum⟩ HT7.out.okh hwf).mono ?_
              rintro e w8 ⟨⟨ga, gc, rfl, hnew⟩, hb8⟩
              have HN8 := Lib.hid hnew
              have HT8 := Lib.hid (HT7.out.quiet hb8)
              have HLA8 := Lib.hid (HLA7.out.below hb8)
              have d4 := HCL.out _ HT8.out.below HLA8.out
              rw [HG.out, errV_zero]
              clear hnew hb8 c4
              go_wp2_with fail
              refine ((heldCore p).get _ ob S6 R6 o fm HT8.out.ho ⟨(HE.out.below HT8.out.below).env, (HE.out.below HT8.out.below).sum⟩ HT8.out.oko hwf).mono ?_
              rintro e w9 ⟨⟨ga2, gc2, rfl, hnew2⟩, hb9⟩
              rw [HGE.out] at hnew2
              rw [HGE.out, HG.out, errV_zero]
              have HN9 := Lib.hid hnew2
              have HL9 := Lib.hid (HN8.out.lies.below hb9)
              have HT9 := Lib.hid (HT8.out.quiet hb9)
              have HLA9 := Lib.hid (HLA8.out.below hb9)
              have hgl : (getH s fm).1.length ≤ 100000 := (tree_small (HT9.out.okh.get HG.out).1).few
              clear hnew2 hb9 d4 HT8 HLA8
              generalize (getH s fm).1 = t at HN9 HL9 hgl ⊢
              go_wp2_with fail
              refine (same_self t ga ga2 gc gc2 _ HL9.out HN9.out.lies hgl).mono ?_
              rintro e w10 ⟨rfl, hb10⟩
              have HT10 := Lib.hid (HT9.out.quiet hb10)
              have HLA10 := Lib.hid (HLA9.out.below hb10)
              clear hb10
              go_wp2
              go_roundw
              case rel => exact ⟨q2 + 1, by omega, by go_num, HT10.out, HLA10.out⟩
              case measure => simp [intOf]; omega
            · have hl2' : ¬ (q2 : Int) < (l.length : Int) := by omega
              go_wp2_with fail
              refine (lockBundle_any p o ob S6 R6 l aw cw _ HT7.out.ho (HE.out.below HT7.out.below) HT7.out.oko HLA7.out hlc HSM.out).mono ?_
              rintro e w8 ⟨⟨v8, rfl, hv8⟩, hb8⟩
              rw [HBO.out] at hv8
              have := hv8.isNil
              subst this
              have HT8 := Lib.hid (HT7.out.quiet hb8)
              have HB8 : Hid ((bundleL o l).1 = txt) := by show _ = _; rw [HBO.out]
              rw [HB8.out]
              clear hv8 hb8
              go_wp2_with fail
              refine ((heldCore p).sums _ ob S6 R6 o HT8.out.ho HT8.out.oko).mono ?_
              rintro e w9 ⟨⟨v9, rfl, ho9⟩, hb9⟩
              obtain ⟨a9, c9, rfl⟩ := owns_slice ho9
              have HT9 := Lib.hid (HT8.out.quiet hb9)
              have hsl : (o.l.map fun x => (x.n : Int)).length ≤ l.length := by rw [List.length_map]; exact HOL.out
              have hsl' : ((o.l.map fun x => (x.n : Int)).length : Int) ≤ (l.length : Int) := by omega
              clear ho9 hb9
              generalize (o.l.map fun x => (x.n : Int)).length = z9 at hsl hsl' ⊢
              go_wp2
              go_ret
              exact ⟨rfl, HT9.out.below⟩
        · have HX := Lib.hid (bundle_none hc)
          obtain ⟨T, u, rfl⟩ := hv5.some hc
          rw [HX.out]
          clear hv5 hb5 hc
          go_wp2
          go_ret
          exact ⟨rfl, HT5.out.below⟩
      · have hA' : ¬ (q : Int) < (rs.length : Int) := by omega
        go_wp2_with fail
        refine (lockBundle_any p s nb S R l aw cw _ HT.out.hh (HE.out.below HT.out.below) HT.out.okh HLA.out hlc HSM.out).mono ?_
        rintro e w5 ⟨⟨v5, rfl, hv5⟩, hb5⟩
        have HT5 := Lib.hid (HT.out.quiet hb5)
        have HLA5 := Lib.hid (HLA.out.below hb5)
        by_cases hc : (bundleL s l).2.1 = 0
        · obtain ⟨o, hld, hoko, hol, hget, hg0, hbo⟩ := load_fine HT5.out.okh HK.out hc
          have HLEN := Lib.hid (bundle_short HK.out hc)
          have HRD := Lib.hid (bundle_read HT5.out.okh HK.out hc)
          have HOO := Lib.hid hoko
          have HOL := Lib.hid hol
          have HGET := Lib.hid hget
          have HG0 := Lib.hid hg0
          have hbs : bundleL s l = ((bundleL s l).1, 0, (bundleL s l).2.2) := by rw [← hc]
          have HBO : Hid (bundleL o l = ((bundleL s l).1, 0, (bundleL s l).2.2)) := hbo.trans hbs
          have HLD := Lib.hid hld
          rw [hc] at hv5
          have := hv5.isNil
          subst this
          clear hv5 hb5 hc hld hoko hol hget hg0 hbo hbs HT HLA
          generalize (bundleL s l).2.2 = pl at HBO
          generalize (bundleL s l).1 = txt at HLEN HRD HBO HLD ⊢
          have hlt20 : ¬ (20000 : Int) < (txt.length : Int) := by have := HLEN.out; omega
          go_wp2_with fail
          refine (lockLoad_any p (Hs.none 40) ob SO RO l aw cw txt _ HT5.out.ho (HE.out.below HT5.out.below) HT5.out.oko HLA5.out hlc HSM.out (by have := HLEN.out; omega) (fun _ => HRD.out)).mono ?_
          rintro e w6 ⟨⟨v6, rfl, hv6⟩, S6, R6, l6⟩
          rw [HLD.out] at hv6 l6
          have := hv6.isNil
          subst this
          have HT6 := Lib.hid (HT5.out.swap.step l6 HOO.out).swap
          have HLA6 := Lib.hid (wlies_left HLA5.out l6.kept (fun hne b o t e => (HAP.out hne b o t e).2))
          clear hv6 l6 HLA5 HT5 HLD HRD
          go_wp2_with fail
          have h20 := HK.out.few
          go_loopw [15] (fun i wr2 => ∃ q2 : Nat, q2 ≤ l.length ∧ i = .int .i64 q2 ∧ TwoP w wr2 nb S R s ob S6 R6 o ∧ WLies wr2 aw l) (fun i _ => l.length - (intOf i).toNat)
          case atStart => exact ⟨0, by omega, rfl, HT6.out, HLA6.out⟩
          case round =>
            obtain ⟨q2, hq2, rfl, ht2, hla2⟩ := hrel
            have HT7 := Lib.hid ht2
            have HLA7 := Lib.hid hla2
            clear ht2 hla2 HT6 HLA6
            by_cases hl2 : q2 < l.length
            · have hl2' : (q2 : Int) < (l.length : Int) := by omega
              obtain ⟨bw, ow, rfl, c0, c1, c2, c3, c4⟩ := HLA7.out.at hl2
              have HCL : Hid (∀ W, Below w.heap.size w W → WLies W (some ⟨bw, ow, none⟩) l → W.cell? ⟨bw, ow + q2 * 5 + 4, none⟩ = some (.int .i64 l[q2].m)) := fun W _ hW => by
                obtain ⟨b', o', e', _, _, _, _, k4⟩ := hW.at hl2
                cases e'
                exact k4
              have hwf := sum_wf (want_zero (HK.out.right _ (List.getElem_mem hl2))).2.2.2.2.2
              have HGE := Lib.hid (HGET.out _ (List.getElem_mem hl2))
              have HG := Lib.hid (HG0.out _ (List.getElem_mem hl2))
              generalize l[q2] = f at c0 c1 c2 c3 c4 hwf HGE HG HCL
              obtain ⟨fn, fu, fk, fs, fm⟩ := f
              simp only at hwf c4 HGE HG HCL
              clear c0 c1 c2 c3
              go_wp2_with fail
              refine ((heldCore p).get _ nb S R s fm HT7.out.hh ⟨(HE.out.below HT7.out.below).env, (HE.out.below HT7.out.below).sum⟩ HT7.out.okh hwf).mono ?_
              rintro e w8 ⟨⟨ga, gc, rfl, hnew⟩, hb8⟩
              have HN8 := Lib.hid hnew
              have HT8 := Lib.hid (HT7.out.quiet hb8)
              have HLA8 := Lib.hid (HLA7.out.below hb8)
              have d4 := HCL.out _ HT8.out.below HLA8.out
              rw [HG.out, errV_zero]
              clear hnew hb8 c4
              go_wp2_with fail
              refine ((heldCore p).get _ ob S6 R6 o fm HT8.out.ho ⟨(HE.out.below HT8.out.below).env, (HE.out.below HT8.out.below).sum⟩ HT8.out.oko hwf).mono ?_
              rintro e w9 ⟨⟨ga2, gc2, rfl, hnew2⟩, hb9⟩
              rw [HGE.out] at hnew2
              rw [HGE.out, HG.out, errV_zero]
              have HN9 := Lib.hid hnew2
              have HL9 := Lib.hid (HN8.out.lies.below hb9)
              have HT9 := Lib.hid (HT8.out.quiet hb9)
              have HLA9 := Lib.hid (HLA8.out.below hb9)
              have hgl : (getH s fm).1.length ≤ 100000 := (tree_small (HT9.out.okh.get HG.out).1).few
              clear hnew2 hb9 d4 HT8 HLA8
              generalize (getH s fm).1 = t at HN9 HL9 hgl ⊢
              go_wp2_with fail
              refine (same_self t ga ga2 gc gc2 _ HL9.out HN9.out.lies hgl).mono ?_
              rintro e w10 ⟨rfl, hb10⟩
              have HT10 := Lib.hid (HT9.out.quiet hb10)
              have HLA10 := Lib.hid (HLA9.out.below hb10)
              clear hb10
              go_wp2
              go_roundw
              case rel => exact ⟨q2 + 1, by omega, by go_num, HT10.out, HLA10.out⟩
              case measure => simp [intOf]; omega
            · have hl2' : ¬ (q2 : Int) < (l.length : Int) := by omega
              go_wp2_with fail
              refine (lockBundle_any p o ob S6 R6 l aw cw _ HT7.out.ho (HE.out.below HT7.out.below) HT7.out.oko HLA7.out hlc HSM.out).mono ?_
              rintro e w8 ⟨⟨v8, rfl, hv8⟩, hb8⟩
              rw [HBO.out] at hv8
              have := hv8.isNil
              subst this
              have HT8 := Lib.hid (HT7.out.quiet hb8)
              have HB8 : Hid ((bundleL o l).1 = txt) := by show _ = _; rw [HBO.out]
              rw [HB8.out]
              clear hv8 hb8
              go_wp2_with fail
              refine ((heldCore p).sums _ ob S6 R6 o HT8.out.ho HT8.out.oko).mono ?_
              rintro e w9 ⟨⟨v9, rfl, ho9⟩, hb9⟩
              obtain ⟨a9, c9, rfl⟩ := owns_slice ho9
              have HT9 := Lib.hid (HT8.out.quiet hb9)
              have hsl : (o.l.map fun x => (x.n : Int)).length ≤ l.length := by rw [List.length_map]; exact HOL.out
              have hsl' : ((o.l.map fun x => (x.n : Int)).length : Int) ≤ (l.length : Int) := by omega
              clear ho9 hb9
              generalize (o.l.map fun x => (x.n : Int)).length = z9 at hsl hsl' ⊢
              go_wp2
              go_ret
              exact ⟨rfl, HT9.out.below⟩
        · have HX := Lib.hid (bundle_none hc)
          obtain ⟨T, u, rfl⟩ := hv5.some hc
          rw [HX.out]
          clear hv5 hb5 hc
          go_wp2
          go_ret
          exact ⟨rfl, HT5.out.below⟩
end Go.Proofs.YtmcfkoenpikldaaGreatDoor
