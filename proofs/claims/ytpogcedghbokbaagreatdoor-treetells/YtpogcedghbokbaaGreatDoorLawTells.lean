/-
  The statement TreeTells answers true, whatever comes in: over this seat's translation.
-/
import Derived.Test.YtpogcedghbokbaaGreatDoorTellsLong
import Derived.Test.YtpogcedghbokbaaGreatDoorRefGraftRefPutRefUnderRefSame
import Derived.Deep.CutRange
import Derived.Deep.RegionHeld3
namespace Go.Proofs.YtpogcedghbokbaaGreatDoor
open Go.RowKit Go.Shelf

theorem owns_cap {w : World} {base n cap : Nat} {a : Option Addr} {e : TypeId} {size : Nat} {k : Nat} {xs : List Value} (h : w.ownsRow base e size (.slice a k cap) n xs) : n ≤ cap := by
  rcases h.2 with ⟨e, hn⟩ | ⟨g, cap', cur, e, _, hg, hcap, hm, hsz, htk⟩
  · omega
  · cases e
    exact hcap

/-- What the walk keeps: all that stood when the copy was made, and the fault's two cells. -/
structure At1 (Wo W : World) (fb : Nat) (c i : Int) : Prop where
  base : Below Wo.heap.size Wo W
  far : Wo.heap.size ≤ fb
  c0 : W.cell? ⟨fb, 0, none⟩ = some (.int .i64 c)
  c1 : W.cell? ⟨fb, 1, none⟩ = some (.int .i64 i)

theorem At1.below {Wo W W' : World} {fb : Nat} {c i : Int} (h : At1 Wo W fb c i) (hb : Below W.heap.size W W') : At1 Wo W' fb c i := by
  have hf : fb < W.heap.size := block_lt_of_cell h.c0
  exact ⟨h.base.trans (hb.mono h.base.size), h.far, (hb.cell (p := ⟨fb, 0, none⟩) hf).trans h.c0, (hb.cell (p := ⟨fb, 1, none⟩) hf).trans h.c1⟩
theorem At1.new {Wo W : World} {c i : Int} (h : Below Wo.heap.size Wo W) : At1 Wo (W.alloc (.cells #[.int .i64 c, .int .i64 i] 38)) W.heap.size c i := by
  obtain ⟨a0, a1, _, _, _⟩ := slot_two (w := W) (u := .int .i64 c) (v := .int .i64 i) (T := 38) (Below.refl _ _)
  exact ⟨h.alloc h.size _, h.size, a0, a1⟩

/-- .. and the second fault's two cells, which are written. -/
structure At2 (Wo W : World) (fb gb : Nat) (c i c' i' : Int) : Prop where
  one : At1 Wo W fb c i
  far : fb < gb
  g0 : W.cell? ⟨gb, 0, none⟩ = some (.int .i64 c')
  g1 : W.cell? ⟨gb, 1, none⟩ = some (.int .i64 i')
  z0 : W.frozen? ⟨gb, 0, none⟩ = false
  z1 : W.frozen? ⟨gb, 1, none⟩ = false
  no : ∀ k, 2 ≤ k → W.cell? ⟨gb, k, none⟩ = none

theorem At2.below {Wo W W' : World} {fb gb : Nat} {c i c' i' : Int} (h : At2 Wo W fb gb c i c' i') (hb : Below W.heap.size W W') : At2 Wo W' fb gb c i c' i' := by
  have hg : gb < W.heap.size := block_lt_of_cell h.g0
  exact ⟨h.one.below hb, h.far, (hb.cell (p := ⟨gb, 0, none⟩) hg).trans h.g0, (hb.cell (p := ⟨gb, 1, none⟩) hg).trans h.g1, (hb.frozen (p := ⟨gb, 0, none⟩) hg).trans h.z0, (hb.frozen (p := ⟨gb, 1, none⟩) hg).trans h.z1, fun k hk => (hb.cell (p := ⟨gb, k, none⟩) hg).trans (h.no k hk)⟩
theorem At2.new {Wo W : World} {fb : Nat} {c i c' i' : Int} (h : At1 Wo W fb c i) : At2 Wo (W.alloc (.cells #[.int .i64 c', .int .i64 i'] 38)) fb W.heap.size c i c' i' := by
  obtain ⟨a0, a1, a2, a3, _⟩ := slot_two (w := W) (u := .int .i64 c') (v := .int .i64 i') (T := 38) (Below.refl _ _)
  exact ⟨h.below ((Below.refl _ _).alloc (Nat.le_refl _) _), block_lt_of_cell h.c0, a0, a1, a2, a3, fun k hk => by
    unfold World.cell?
    rw [heap_new]
    exact Array.getElem?_eq_none (by simpa using hk)⟩
theorem At2.set {Wo W : World} {fb gb : Nat} {c i c' i' : Int} (h : At2 Wo W fb gb c i c' i') (c2 i2 : Int) : At2 Wo ((W.setCell ⟨gb, 0, none⟩ (.int .i64 c2)).setCell ⟨gb, 1, none⟩ (.int .i64 i2)) fb gb c i c2 i2 := by
  have hf := h.far
  have hff := h.one.far
  refine ⟨⟨(h.one.base.setCell (p := ⟨gb, 0, none⟩) (by show _ ≤ gb; omega) _).setCell (p := ⟨gb, 1, none⟩) (by show _ ≤ gb; omega) _, hff, ?_, ?_⟩, hf, ?_, ?_, ?_, ?_, fun k hk => ?_⟩
  · rw [World.cell?_setCell_far _ _ _ _ (show gb ≠ fb by omega), World.cell?_setCell_far _ _ _ _ (show gb ≠ fb by omega)]; exact h.one.c0
  · rw [World.cell?_setCell_far _ _ _ _ (show gb ≠ fb by omega), World.cell?_setCell_far _ _ _ _ (show gb ≠ fb by omega)]; exact h.one.c1
  · rw [World.cell?_setCell_other (h := by simp)]
    exact World.cell?_setCell_same' _ _ _ (by rw [h.g0]; rfl)
  · refine World.cell?_setCell_same' _ _ _ ?_
    rw [World.cell?_setCell_other (h := by simp), h.g1]
    rfl
  · rw [World.frozen?_setCell, World.frozen?_setCell]; exact h.z0
  · rw [World.frozen?_setCell, World.frozen?_setCell]; exact h.z1
  · rw [World.cell?_setCell_other _ _ _ _ (fun e => by injection e; omega), World.cell?_setCell_other _ _ _ _ (fun e => by injection e; omega)]
    exact h.no k hk
/-- Files do not lie in the second fault's block, nor does an error's place. -/
theorem At2.lies {Wo W : World} {fb gb : Nat} {c i c' i' : Int} (h : At2 Wo W fb gb c i c' i') {s : Option Addr} {T : List F} (hl : LiesAt W s T) (u v : Value) : LiesAt ((W.setCell ⟨gb, 0, none⟩ u).setCell ⟨gb, 1, none⟩ v) s T := fun hne => by
  obtain ⟨b, o, e, hc⟩ := hl hne
  have hb : b ≠ gb := by
    rintro rfl
    have h0 := (hc 0 (List.length_pos_iff.2 hne)).1
    rw [Nat.zero_mul, Nat.add_zero] at h0
    match o, h0 with
    | 0, h0 => rw [h.g0] at h0; cases h0
    | 1, h0 => rw [h.g1] at h0; cases h0
    | o + 2, h0 => rw [h.no (o + 2) (by omega)] at h0; cases h0
  refine ⟨b, o, e, fun k hk => ?_⟩
  obtain ⟨h0, h1, h2⟩ := hc k hk
  have far : ∀ q, ((W.setCell ⟨gb, 0, none⟩ u).setCell ⟨gb, 1, none⟩ v).cell? ⟨b, q, none⟩ = W.cell? ⟨b, q, none⟩ := fun q => by
    rw [World.cell?_setCell_far _ _ _ _ (show gb ≠ b from fun e => hb e.symm), World.cell?_setCell_far _ _ _ _ (show gb ≠ b from fun e => hb e.symm)]
  exact ⟨(far _).trans h0, (far _).trans h1, (far _).trans h2⟩
theorem At2.err {Wo W : World} {fb gb : Nat} {c i c' i' : Int} (h : At2 Wo W fb gb c i c' i') {p : Nat → Addr} {e : Value} {n : Nat} {j : Int} (he : ErrAt p W e n j) (u v : Value) : ErrAt p ((W.setCell ⟨gb, 0, none⟩ u).setCell ⟨gb, 1, none⟩ v) e n j := by
  rcases he with he | he | ⟨k, b, o, h0, h1, h2, h3, h4⟩
  · exact .inl he
  · exact .inr (.inl he)
  · have hb : b ≠ gb := by
      rintro rfl
      match o, h4 with
      | 0, h4 => rw [h.g1] at h4; cases h4
      | o + 1, h4 => rw [h.no (o + 1 + 1) (by omega)] at h4; cases h4
    have far : ∀ q, ((W.setCell ⟨gb, 0, none⟩ u).setCell ⟨gb, 1, none⟩ v).cell? ⟨b, q, none⟩ = W.cell? ⟨b, q, none⟩ := fun q => by
      rw [World.cell?_setCell_far _ _ _ _ (show gb ≠ b from fun e => hb e.symm), World.cell?_setCell_far _ _ _ _ (show gb ≠ b from fun e => hb e.symm)]
    exact .inr (.inr ⟨k, b, o, h0, h1, h2, (far _).trans h3, (far _).trans h4⟩)

theorem tree_few {T : List F} (h : (treeFault T).1 = 0) : T.length ≤ 100000 := (tree_small h).few
theorem sort_few (l : List F) : (sortT l).1.length ≤ 100000 := by
  unfold sortT
  by_cases h1 : (l.map (·.p)).Nodup
  · rw [if_pos h1]
    by_cases h2 : (treeFault (sortF l)).1 = 0
    · rw [if_pos h2]; exact tree_few h2
    · rw [if_neg h2]; simp
  · rw [if_neg h1]; simp
theorem put_few (l : List F) (x : F) : (putT l x).1.length ≤ 100000 := by
  unfold putT
  by_cases h1 : (treeFault l).1 ≠ 0
  · rw [if_pos h1]; simp
  · rw [if_neg h1]
    by_cases h2 : (treeFault (withF l x)).1 ≠ 0
    · rw [if_pos h2]; simp
    · rw [if_neg h2]; exact tree_few (T := withF l x) (by omega)
theorem drop_few (l : List F) (q : List UInt8) : (dropT l q).1.length ≤ 100000 := by
  unfold dropT
  by_cases h1 : (treeFault l).1 ≠ 0
  · rw [if_pos h1]; simp
  · rw [if_neg h1]
    by_cases h2 : (without l q).length = l.length
    · rw [if_pos h2]; simp
    · rw [if_neg h2]; exact Nat.le_trans (List.length_filter_le _ _) (tree_few (by omega))
theorem graft_few (l m : List F) (d : List UInt8) : (graftT l d m).1.length ≤ 100000 := by
  unfold graftT
  by_cases h1 : (treeFault l).1 ≠ 0
  · rw [if_pos h1]; simp
  · rw [if_neg h1]
    by_cases h2 : (treeFault m).1 ≠ 0
    · rw [if_pos h2]; simp
    · rw [if_neg h2]
      by_cases h3 : checkCode d ≠ 0
      · rw [if_pos h3]; simp
      · rw [if_neg h3]
        by_cases h4 : (joinAll d m).2.1 ≠ 0
        · rw [if_pos h4]; simp
        · rw [if_neg h4]; exact sort_few _
theorem strip_few (l : List F) (n : Int) : (stripT l n).1.length ≤ 100000 := by
  unfold stripT
  by_cases h1 : (treeFault l).1 ≠ 0
  · rw [if_pos h1]; simp
  · rw [if_neg h1]
    by_cases h2 : (stripAll n l).2.1 ≠ 0
    · rw [if_pos h2]; simp
    · rw [if_neg h2]; exact sort_few _
theorem under_few (l : List F) (d : List UInt8) (h : l.length ≤ 100000) : (underL l d).length ≤ 100000 := by
  unfold underL
  rw [List.length_map]
  exact Nat.le_trans (List.length_filter_le _ _) h
theorem Hid.in {p : Prop} (h : p) : Hid p := h

set_option maxRecDepth 100000 in
set_option maxHeartbeats 16000000 in
open Classical in
theorem treeTells_any (p : Nat → Addr) (l m : List F) (a a' : Option Addr) (ca ca' : Nat) (dir : List UInt8) (x : F) (n : Int) (w : World) (hE : Env p w) (hl : Came w a ca l) (hm : Came w a' ca' m) (hd : dir.length ≤ maxLen) (hxp0 : x.p.length ≤ maxLen) (hxt0 : x.t.length ≤ maxLen) :
    Calls Tryz.prog 4 #[.slice a l.length ca, .slice a' m.length ca', fv x, .string ⟨dir.toArray⟩, .int .i64 n] w fun e w' => e = .returned (.bool true) ∧ Below w.heap.size w w' := by
  by_cases hsum : 0 < (longL l : Int) + (longL m : Int) + (longL [x] : Int)
  · exact tells_long p l m a a' ca ca' dir x n w hE hl hm hd hxp0 hxt0 hsum
  obtain ⟨hc1, hc2, hc3⟩ : (longL l : Int) = 0 ∧ (longL m : Int) = 0 ∧ (longL [x] : Int) = 0 := by omega
  clear hsum
  have HE : Hid (Env p w) := hE
  have HL : Hid (Came w a ca l) := hl
  have HM : Hid (Came w a' ca' m) := hm
  have hll := hl.len
  have hml := hm.len
  have hB0 : Below w.heap.size w (w.alloc (.cells #[sv x.p, .bool x.r, sv x.t] 24)) := (Below.refl _ _).alloc (Nat.le_refl _) _
  have HE0 : Hid (Env p (w.alloc (.cells #[sv x.p, .bool x.r, sv x.t] 24))) := hE.below hB0
  have hd63 : dir.length ≤ 9223372036854775807 := by unfold maxLen at hd; omega
  unfold maxLen at hll hml
  clear hE hl hm hB0 hd
  go_enter Tryz.func4, Tryz.ntmps4
  go_wp2_with fail
  refine (rooted_any p _ HE0.out).mono ?_
  rintro e w1 ⟨rfl, hb1⟩
  have HX1 : Hid (Below (w.heap.size + 1) (w.alloc (.cells #[sv x.p, .bool x.r, sv x.t] 24)) w1) := hb1.mono (by simp)
  obtain ⟨k0, k1, k2, hB1⟩ := box_three HX1.out
  have HB1 : Hid (Below w.heap.size w w1) := hB1
  have hBd : Below w.heap.size w w1.drew := hB1.drew
  have hBx : Below w1.heap.size w1 (w1.alloc (.cells #[sv x.p, .bool x.r, sv x.t] 24)).drew := ((Below.refl _ _).alloc (Nat.le_refl _) _).drew
  have HBX : Hid (Below w.heap.size w (w1.alloc (.cells #[sv x.p, .bool x.r, sv x.t] 24)).drew) := hB1.trans (hBx.mono hB1.size)
  have HXX : Hid (Below (w.heap.size + 1) (w.alloc (.cells #[sv x.p, .bool x.r, sv x.t] 24)) (w1.alloc (.cells #[sv x.p, .bool x.r, sv x.t] 24)).drew) := more_below HX1.out rfl hBx
  clear hb1 hB1 hBx
  by_cases hdl : 100 < dir.length
  · have hdl' : (100 : Int) < (dir.length : Int) := by omega
    clear hdl
    have LA1 := long_is (HL.out.below hBd) 0 hc1
    have LA2 := long_is (HL.out.below HBX.out) 0 hc1
    have LB1 := long_is (HM.out.below hBd) 0 hc2
    have LB2 := long_is (HM.out.below HBX.out) 0 hc2
    have LX2 := long_one w1 x 0 hxp0 hxt0 hc3
    clear hc1 hc2 hc3
    go_wp2_with fail
    go_region_held3 (fun w' => w'.cell? ⟨w.heap.size, 0, none⟩ = some (sv x.p) ∧ w'.cell? ⟨w.heap.size, 1, none⟩ = some (.bool x.r) ∧ w'.cell? ⟨w.heap.size, 2, none⟩ = some (sv x.t)) (go_keep) (first
        | (go_at_call 7; with_reducible refine LA1.mono ?_; rintro e w' ⟨rfl, rfl⟩)
        | (go_at_call 7; with_reducible refine LA2.mono ?_; rintro e w' ⟨rfl, rfl⟩)
        | (go_at_call 7; with_reducible refine LB1.mono ?_; rintro e w' ⟨rfl, rfl⟩)
        | (go_at_call 7; with_reducible refine LB2.mono ?_; rintro e w' ⟨rfl, rfl⟩)
        | (go_at_call 7; with_reducible refine LX2.mono ?_; rintro e w' ⟨rfl, rfl⟩))
    all_goals go_wp2
    all_goals go_ret
    all_goals exact ⟨rfl, HBX.out⟩
  · have hdl' : decide ((100 : Int) < (dir.length : Int)) = false := by simp; omega
    have LA1 := long_is (HL.out.below hBd) 0 hc1
    have LA2 := long_is (HL.out.below HBX.out) 0 hc1
    have LB1 := long_is (HM.out.below hBd) 0 hc2
    have LB2 := long_is (HM.out.below HBX.out) 0 hc2
    have LX2 := long_one w1 x 0 hxp0 hxt0 hc3
    have HSL : Hid (Small l) := small_of_long hc1
    have HSM : Hid (Small m) := small_of_long hc2
    obtain ⟨hxp, hxt⟩ := one_of_long hc3
    have hlf := HSL.out.few
    have hmf := HSM.out.few
    clear hc1 hc2 hc3
    go_wp2_with fail
    go_cut [38] from 20 to 37 (fun s38 wx => s38 = .bool false ∧ wx = (w1.alloc (.cells #[sv x.p, .bool x.r, sv x.t] 24)).drew)
    case first =>
      go_region_held3 (fun w' => w'.cell? ⟨w.heap.size, 0, none⟩ = some (sv x.p) ∧ w'.cell? ⟨w.heap.size, 1, none⟩ = some (.bool x.r) ∧ w'.cell? ⟨w.heap.size, 2, none⟩ = some (sv x.t)) (go_keep) (first
          | (go_at_call 7; with_reducible refine LA1.mono ?_; rintro e w' ⟨rfl, rfl⟩)
          | (go_at_call 7; with_reducible refine LA2.mono ?_; rintro e w' ⟨rfl, rfl⟩)
          | (go_at_call 7; with_reducible refine LB1.mono ?_; rintro e w' ⟨rfl, rfl⟩)
          | (go_at_call 7; with_reducible refine LB2.mono ?_; rintro e w' ⟨rfl, rfl⟩)
          | (go_at_call 7; with_reducible refine LX2.mono ?_; rintro e w' ⟨rfl, rfl⟩))
      all_goals (go_wp2_with fail; go_meet; exact ⟨rfl, rfl⟩)
    case rest =>
    obtain ⟨rfl, rfl⟩ := hcut
    clear LA1 LA2 LB1 LB2 LX2 k0 k1 k2 hBd hdl'
    obtain ⟨W, hW⟩ : ∃ W, W = (w1.alloc (.cells #[sv x.p, .bool x.r, sv x.t] 24)).drew := ⟨_, rfl⟩
    rw [← hW] at HBX HXX ⊢
    clear hW HX1 HB1 HE0
    go_wp2_with fail
    refine (ownFiles_any l a ca _ (HL.out.lies.below HBX.out) HL.out.nil hlf).mono ?_
    rintro e Wo ⟨⟨v, rfl, hown⟩, hb⟩
    obtain ⟨ao, co, rfl, hlo, _⟩ := owns_lies hown
    have hco := owns_cap hown
    have HBO : Hid (Below w.heap.size w Wo) := HBX.out.trans (hb.mono HBX.out.size)
    have hxo := more_below HXX.out rfl hb
    obtain ⟨hk0, hk1, hk2, _⟩ := box_three hxo
    have HK0 : Hid (Wo.cell? ⟨w.heap.size, 0, none⟩ = some (sv x.p)) := hk0
    have HK1 : Hid (Wo.cell? ⟨w.heap.size, 1, none⟩ = some (.bool x.r)) := hk1
    have HK2 : Hid (Wo.cell? ⟨w.heap.size, 2, none⟩ = some (sv x.t)) := hk2
    have HO : Hid (LiesAt Wo ao l) := hlo
    have HEO : Hid (Env p Wo) := HE.out.below HBO.out
    have HLO : Hid (Came Wo a ca l) := HL.out.below HBO.out
    have HMO : Hid (Came Wo a' ca' m) := HM.out.below HBO.out
    clear hown hlo hb HBX HXX hxo hk0 hk1 hk2 HE HL HM
    go_wp2_with fail
    refine (refTreeFault_any l a ca _ HLO.out.lies HSL.out).mono ?_
    rintro e w3 ⟨rfl, hb3⟩
    obtain ⟨cf, jf, hTF⟩ : ∃ cf jf, treeFault l = (cf, jf) := ⟨_, _, rfl⟩
    have HTF : Hid (treeFault l = (cf, jf)) := hTF
    rw [hTF]
    have HA0 : Hid (At1 Wo (w3.alloc (.cells #[.int .i64 cf, .int .i64 jf] 38)) w3.heap.size cf jf) := At1.new hb3
    clear hb3 hTF
    go_wp2_with fail

    obtain ⟨W1, hW1⟩ : ∃ W1, W1 = w3.alloc (.cells #[.int .i64 cf, .int .i64 jf] 38) := ⟨_, rfl⟩
    rw [← hW1] at HA0 ⊢
    clear hW1
    generalize w3.heap.size = fb at HA0 ⊢
    clear w3
    have HA1 : Hid (At1 Wo W1.drew fb cf jf) := HA0.out.below ((Below.refl _ _).drew)
    have HCK : Calls Tryz.prog 8 #[.slice ao l.length co] W1.drew fun e w' => (∃ v, e = .returned v ∧ ErrAt p w' v cf jf) ∧ Below W1.drew.heap.size W1.drew w' := by
      have := checkTree_any p l ao co W1.drew (HEO.out.below HA1.out.base) (HO.out.below HA1.out.base) hco HSL.out
      rw [HTF.out] at this
      exact this
    have c0 := HA0.out.c0
    have c1 := HA0.out.c1
    clear HA0
    go_region_held3 (fun w' => w'.cell? ⟨fb, 0, none⟩ = some (.int .i64 cf) ∧ w'.cell? ⟨fb, 1, none⟩ = some (.int .i64 jf)) (go_keep) (first
      | (go_at_call 8; (with_reducible refine HCK.mono ?_); rintro e w4 ⟨⟨ve, rfl, hve⟩, hb4⟩; have HA4 : Hid (At1 Wo w4 fb cf jf) := HA1.out.below hb4; have HV4 : Hid (ErrAt p w4 ve cf jf) := hve; have d0 := HA4.out.c0; have d1 := HA4.out.c1; clear hve hb4)
      | (go_at_call 16; refine (faulted_err HV4.out (HEO.out.below HA4.out.base)).mono ?_; rintro e w5 ⟨rfl, hb5⟩; have HA5 : Hid (At1 Wo w5 fb cf jf) := HA4.out.below hb5; have q0 := HA5.out.c0; have q1 := HA5.out.c1; clear hb5))
    clear HCK HA1 HA4 HV4 c0 c1 d0 d1 q0 q1

    obtain ⟨T, c, j, hT⟩ : ∃ T c j, sortT l = (T, c, j) := ⟨_, _, _, rfl⟩
    have hTn : T.length ≤ 100000 := by have := sort_few l; rw [hT] at this; exact this
    have HT : Hid (sortT l = (T, c, j)) := hT
    clear hT

    go_wp2_with fail
    refine (told_open (sortTree_any p l ao co _ (HEO.out.below HA5.out.base) (HO.out.below HA5.out.base) HSL.out) HT.out).mono ?_
    rintro e w6 ⟨⟨sa, ct, vt, rfl, hlt, hve⟩, hb6⟩
    have HLT : Hid (LiesAt w6 sa T) := hlt
    have HV : Hid (ErrAt p w6 vt c j) := hve
    have HA6 : Hid (At1 Wo w6 fb cf jf) := HA5.out.below hb6
    clear hlt hve hb6 HA5
    go_wp2_with fail
    refine (ref_open (refSort_any l a ca _ (HLO.out.lies.below HA6.out.base) HSL.out) HT.out).mono ?_
    rintro e w7 ⟨⟨aw, cw, rfl, hlw⟩, hb7⟩
    have HG8 : Hid (At2 Wo (w7.alloc (.cells #[.int .i64 c, .int .i64 j] 38)) fb w7.heap.size cf jf c j) := At2.new (HA6.out.below hb7)
    have HLT8 : Hid (LiesAt (w7.alloc (.cells #[.int .i64 c, .int .i64 j] 38)) sa T) := HLT.out.below (hb7.alloc hb7.size _)
    have HLW8 : Hid (LiesAt (w7.alloc (.cells #[.int .i64 c, .int .i64 j] 38)) aw T) := hlw.below ((Below.refl _ _).alloc (Nat.le_refl _) _)
    have HV8 : Hid (ErrAt p (w7.alloc (.cells #[.int .i64 c, .int .i64 j] 38)) vt c j) := HV.out.below (hb7.alloc hb7.size _)
    clear hlw hb7 HLT HV HA6
    go_wp2_with fail
    refine (faulted_err HV8.out (HEO.out.below HG8.out.one.base)).mono ?_
    rintro e w9 ⟨rfl, hb9⟩
    have HG9 : Hid (At2 Wo w9 fb w7.heap.size cf jf c j) := HG8.out.below hb9
    have HLT9 : Hid (LiesAt w9 sa T) := HLT8.out.below hb9
    have HLW9 : Hid (LiesAt w9 aw T) := HLW8.out.below hb9
    clear hb9 HG8 HLT8 HLW8 HV8
    generalize w7.heap.size = gb at HG9 ⊢
    clear w7

    go_wp2_with fail
    refine (sameTrees_any T T sa aw ct cw _ HLT9.out HLW9.out hTn hTn).mono ?_
    rintro e w10 ⟨rfl, hb10⟩
    rw [decide_eq_true rfl]
    have HG : Hid (At2 Wo w10 fb gb cf jf c j) := HG9.out.below hb10
    clear hb10 HG9 HLT9 HLW9 HT hTn

    obtain ⟨T, c, j, hT⟩ : ∃ T c j, putT l x = (T, c, j) := ⟨_, _, _, rfl⟩
    have hTn : T.length ≤ 100000 := by have := put_few l x; rw [hT] at this; exact this
    have HT : Hid (putT l x = (T, c, j)) := hT
    clear hT
    have k0 := (HG.out.one.base.cell (p := ⟨w.heap.size, 0, none⟩) (block_lt_of_cell HK0.out)).trans HK0.out
    have k1 := (HG.out.one.base.cell (p := ⟨w.heap.size, 1, none⟩) (block_lt_of_cell HK1.out)).trans HK1.out
    have k2 := (HG.out.one.base.cell (p := ⟨w.heap.size, 2, none⟩) (block_lt_of_cell HK2.out)).trans HK2.out

    go_wp2_with fail
    refine (told_open (putTree_any p l ao co x _ (HEO.out.below HG.out.one.base) (HO.out.below HG.out.one.base) hco HSL.out hxp hxt) HT.out).mono ?_
    rintro e w6 ⟨⟨sa, ct, vt, rfl, hlt, hve⟩, hb6⟩
    have HLT : Hid (LiesAt w6 sa T) := hlt
    have HV : Hid (ErrAt p w6 vt c j) := hve
    have HG6 := Hid.in (HG.out.below hb6)
    clear hlt hve hb6 HG
    clear k0 k1 k2
    have k0 := (HG6.out.one.base.cell (p := ⟨w.heap.size, 0, none⟩) (block_lt_of_cell HK0.out)).trans HK0.out
    have k1 := (HG6.out.one.base.cell (p := ⟨w.heap.size, 1, none⟩) (block_lt_of_cell HK1.out)).trans HK1.out
    have k2 := (HG6.out.one.base.cell (p := ⟨w.heap.size, 2, none⟩) (block_lt_of_cell HK2.out)).trans HK2.out

    go_wp2_with fail
    refine (ref_open (refPut_any l a ca x _ (HLO.out.lies.below HG6.out.one.base) HLO.out.cap HLO.out.nil HSL.out hxp hxt) HT.out).mono ?_
    rintro e w7 ⟨⟨aw, cw, rfl, hlw⟩, hb7⟩
    have hg7 := HG6.out.below hb7
    have HG8 : Hid (At2 Wo ((w7.setCell ⟨gb, 0, none⟩ (.int .i64 c)).setCell ⟨gb, 1, none⟩ (.int .i64 j)) fb gb cf jf c j) := hg7.set c j
    have HLT8 : Hid (LiesAt ((w7.setCell ⟨gb, 0, none⟩ (.int .i64 c)).setCell ⟨gb, 1, none⟩ (.int .i64 j)) sa T) := hg7.lies (HLT.out.below hb7) _ _
    have HLW8 : Hid (LiesAt ((w7.setCell ⟨gb, 0, none⟩ (.int .i64 c)).setCell ⟨gb, 1, none⟩ (.int .i64 j)) aw T) := hg7.lies hlw _ _
    have HV8 : Hid (ErrAt p ((w7.setCell ⟨gb, 0, none⟩ (.int .i64 c)).setCell ⟨gb, 1, none⟩ (.int .i64 j)) vt c j) := hg7.err (HV.out.below hb7) _ _
    have g0 := hg7.g0
    have g1 := hg7.g1
    have z0 := hg7.z0
    have z1 := hg7.z1
    have s0 := HG8.out.g0
    have s1 := HG8.out.g1
    clear hlw hb7 HLT HV HG6 hg7
    clear k0 k1 k2

    go_wp2_with fail
    refine (faulted_err HV8.out (HEO.out.below HG8.out.one.base)).mono ?_
    rintro e w9 ⟨rfl, hb9⟩
    have HG9 : Hid (At2 Wo w9 fb gb cf jf c j) := HG8.out.below hb9
    have HLT9 : Hid (LiesAt w9 sa T) := HLT8.out.below hb9
    have HLW9 : Hid (LiesAt w9 aw T) := HLW8.out.below hb9
    clear hb9 HG8 HLT8 HLW8 HV8 g0 g1 z0 z1 s0 s1

    go_wp2_with fail
    refine (sameTrees_any T T sa aw ct cw _ HLT9.out HLW9.out hTn hTn).mono ?_
    rintro e w10 ⟨rfl, hb10⟩
    rw [decide_eq_true rfl]
    have HG : Hid (At2 Wo w10 fb gb cf jf c j) := HG9.out.below hb10
    clear hb10 HG9 HLT9 HLW9 HT hTn

    obtain ⟨T, c, j, hT⟩ : ∃ T c j, dropT l dir = (T, c, j) := ⟨_, _, _, rfl⟩
    have hTn : T.length ≤ 100000 := by have := drop_few l dir; rw [hT] at this; exact this
    have HT : Hid (dropT l dir = (T, c, j)) := hT
    clear hT

    go_wp2_with fail
    refine (told_open (dropTree_any p l ao co dir _ (HEO.out.below HG.out.one.base) (HO.out.below HG.out.one.base) hco HSL.out) HT.out).mono ?_
    rintro e w6 ⟨⟨sa, ct, vt, rfl, hlt, hve⟩, hb6⟩
    have HLT : Hid (LiesAt w6 sa T) := hlt
    have HV : Hid (ErrAt p w6 vt c j) := hve
    have HG6 := Hid.in (HG.out.below hb6)
    clear hlt hve hb6 HG

    go_wp2_with fail
    refine (ref_open (refDrop_any l a ca dir _ (HLO.out.lies.below HG6.out.one.base) HSL.out) HT.out).mono ?_
    rintro e w7 ⟨⟨aw, cw, rfl, hlw⟩, hb7⟩
    have hg7 := HG6.out.below hb7
    have HG8 : Hid (At2 Wo ((w7.setCell ⟨gb, 0, none⟩ (.int .i64 c)).setCell ⟨gb, 1, none⟩ (.int .i64 j)) fb gb cf jf c j) := hg7.set c j
    have HLT8 : Hid (LiesAt ((w7.setCell ⟨gb, 0, none⟩ (.int .i64 c)).setCell ⟨gb, 1, none⟩ (.int .i64 j)) sa T) := hg7.lies (HLT.out.below hb7) _ _
    have HLW8 : Hid (LiesAt ((w7.setCell ⟨gb, 0, none⟩ (.int .i64 c)).setCell ⟨gb, 1, none⟩ (.int .i64 j)) aw T) := hg7.lies hlw _ _
    have HV8 : Hid (ErrAt p ((w7.setCell ⟨gb, 0, none⟩ (.int .i64 c)).setCell ⟨gb, 1, none⟩ (.int .i64 j)) vt c j) := hg7.err (HV.out.below hb7) _ _
    have g0 := hg7.g0
    have g1 := hg7.g1
    have z0 := hg7.z0
    have z1 := hg7.z1
    have s0 := HG8.out.g0
    have s1 := HG8.out.g1
    clear hlw hb7 HLT HV HG6 hg7

    go_wp2_with fail
    refine (faulted_err HV8.out (HEO.out.below HG8.out.one.base)).mono ?_
    rintro e w9 ⟨rfl, hb9⟩
    have HG9 : Hid (At2 Wo w9 fb gb cf jf c j) := HG8.out.below hb9
    have HLT9 : Hid (LiesAt w9 sa T) := HLT8.out.below hb9
    have HLW9 : Hid (LiesAt w9 aw T) := HLW8.out.below hb9
    clear hb9 HG8 HLT8 HLW8 HV8 g0 g1 z0 z1 s0 s1

    go_wp2_with fail
    refine (sameTrees_any T T sa aw ct cw _ HLT9.out HLW9.out hTn hTn).mono ?_
    rintro e w10 ⟨rfl, hb10⟩
    rw [decide_eq_true rfl]
    have HG : Hid (At2 Wo w10 fb gb cf jf c j) := HG9.out.below hb10
    clear hb10 HG9 HLT9 HLW9 HT hTn
    by_cases hcf : cf = 0
    · subst hcf
      obtain rfl : jf = -1 := by
        have h := treeFault_zero (l := l) (by rw [HTF.out])
        rw [HTF.out] at h
        exact (Prod.mk.inj h).2
      have hTn : (underL l dir).length ≤ 100000 := under_few l dir hlf
      obtain ⟨T, hT⟩ : ∃ T, underL l dir = T := ⟨_, rfl⟩
      rw [hT] at hTn
      have HT : Hid (underL l dir = T) := hT
      clear hT
      have HU : Hid (underT l dir = (T, 0, -1)) := by show underT l dir = _; rw [← HT.out]; exact under_fine (by rw [HTF.out])
      go_wp2_with fail
      refine (told_open (under_any p l ao co dir _ (HEO.out.below HG.out.one.base) (HO.out.below HG.out.one.base) hco HSL.out (by omega)) HU.out).mono ?_
      rintro e w6 ⟨⟨sa, ct, vt, rfl, hlt, hve⟩, hb6⟩
      have HLT : Hid (LiesAt w6 sa T) := hlt
      have HV : Hid (ErrAt p w6 vt 0 (-1)) := hve
      have HG6 := Hid.in (HG.out.below hb6)
      have f0 : w6.cell? ⟨fb, 0, none⟩ = some (.int .i64 0) := HG6.out.one.c0
      clear hlt hve hb6 HG
      go_wp2_with fail
      refine (refUnder_any l a ca dir _ (HLO.out.lies.below HG6.out.one.base) HSL.out (by omega)).mono ?_
      rintro e w7 ⟨⟨v, rfl, hown⟩, hb7⟩
      rw [HT.out] at hown
      obtain ⟨aw, cw, rfl, hlw, _⟩ := owns_lies hown
      have HG7 := Hid.in (HG6.out.below hb7)
      have HLT7 : Hid (LiesAt w7 sa T) := HLT.out.below hb7
      have HLW7 : Hid (LiesAt w7 aw T) := hlw
      have HV7 : Hid (ErrAt p w7 vt 0 (-1)) := HV.out.below hb7
      have f0' : w7.cell? ⟨fb, 0, none⟩ = some (.int .i64 0) := HG7.out.one.c0
      have f1' : w7.cell? ⟨fb, 1, none⟩ = some (.int .i64 (-1)) := HG7.out.one.c1
      clear hown hlw hb7 HLT HV HG6 f0
      go_wp2_with fail
      refine (faulted_err HV7.out (HEO.out.below HG7.out.one.base)).mono ?_
      rintro e w9 ⟨rfl, hb9⟩
      have HG9 := Hid.in (HG7.out.below hb9)
      have HLT9 : Hid (LiesAt w9 sa T) := HLT7.out.below hb9
      have HLW9 : Hid (LiesAt w9 aw T) := HLW7.out.below hb9
      clear hb9 HG7 HLT7 HLW7 HV7 f0' f1'
      go_wp2_with fail
      refine (sameTrees_any T T sa aw ct cw _ HLT9.out HLW9.out hTn hTn).mono ?_
      rintro e w10 ⟨rfl, hb10⟩
      rw [decide_eq_true rfl]
      have HG := Hid.in (HG9.out.below hb10)
      clear hb10 HG9 HLT9 HLW9 HT hTn HU

      obtain ⟨T, c, j, hT⟩ : ∃ T c j, graftT l dir m = (T, c, j) := ⟨_, _, _, rfl⟩
      have hTn : T.length ≤ 100000 := by have := graft_few l m dir; rw [hT] at this; exact this
      have HT : Hid (graftT l dir m = (T, c, j)) := hT
      clear hT

      go_wp2_with fail
      refine (ownFiles_any m a' ca' _ (HMO.out.lies.below HG.out.one.base) HMO.out.nil hmf).mono ?_
      rintro e w5 ⟨⟨v, rfl, hown⟩, hb5⟩
      obtain ⟨am, cm, rfl, hlm, _⟩ := owns_lies hown
      have hcm := owns_cap hown
      have HLM : Hid (LiesAt w5 am m) := hlm
      have HG5 := Hid.in (HG.out.below hb5)
      clear hown hlm hb5 HG

      go_wp2_with fail
      refine (told_open (graft_any p l m ao am co cm dir _ (HEO.out.below HG5.out.one.base) (HO.out.below HG5.out.one.base) HLM.out hco hcm HSL.out HSM.out (by omega)) HT.out).mono ?_
      rintro e w6 ⟨⟨sa, ct, vt, rfl, hlt, hve⟩, hb6⟩
      have HLT : Hid (LiesAt w6 sa T) := hlt
      have HV : Hid (ErrAt p w6 vt c j) := hve
      have HG6 := Hid.in (HG5.out.below hb6)
      clear hlt hve hb6 HG5

      go_wp2_with fail
      refine (ref_open (refGraft_any l m a a' ca ca' dir _ (HLO.out.lies.below HG6.out.one.base) (HMO.out.lies.below HG6.out.one.base) HLO.out.nil HSL.out HSM.out (by omega)) HT.out).mono ?_
      rintro e w7 ⟨⟨aw, cw, rfl, hlw⟩, hb7⟩
      have hg7 := HG6.out.below hb7
      have HG8 : Hid (At2 Wo ((w7.setCell ⟨gb, 0, none⟩ (.int .i64 c)).setCell ⟨gb, 1, none⟩ (.int .i64 j)) fb gb _ _ c j) := hg7.set c j
      have HLT8 : Hid (LiesAt ((w7.setCell ⟨gb, 0, none⟩ (.int .i64 c)).setCell ⟨gb, 1, none⟩ (.int .i64 j)) sa T) := hg7.lies (HLT.out.below hb7) _ _
      have HLW8 : Hid (LiesAt ((w7.setCell ⟨gb, 0, none⟩ (.int .i64 c)).setCell ⟨gb, 1, none⟩ (.int .i64 j)) aw T) := hg7.lies hlw _ _
      have HV8 : Hid (ErrAt p ((w7.setCell ⟨gb, 0, none⟩ (.int .i64 c)).setCell ⟨gb, 1, none⟩ (.int .i64 j)) vt c j) := hg7.err (HV.out.below hb7) _ _
      have g0 := hg7.g0
      have g1 := hg7.g1
      have z0 := hg7.z0
      have z1 := hg7.z1
      have s0 := HG8.out.g0
      have s1 := HG8.out.g1
      clear hlw hb7 HLT HV HG6 hg7
      clear HLM hcm

      go_wp2_with fail
      refine (faulted_err HV8.out (HEO.out.below HG8.out.one.base)).mono ?_
      rintro e w9 ⟨rfl, hb9⟩
      have HG9 : Hid (At2 Wo w9 fb gb _ _ c j) := HG8.out.below hb9
      have HLT9 : Hid (LiesAt w9 sa T) := HLT8.out.below hb9
      have HLW9 : Hid (LiesAt w9 aw T) := HLW8.out.below hb9
      clear hb9 HG8 HLT8 HLW8 HV8 g0 g1 z0 z1 s0 s1

      go_wp2_with fail
      refine (sameTrees_any T T sa aw ct cw _ HLT9.out HLW9.out hTn hTn).mono ?_
      rintro e w10 ⟨rfl, hb10⟩
      rw [decide_eq_true rfl]
      have HG : Hid (At2 Wo w10 fb gb _ _ c j) := HG9.out.below hb10
      clear hb10 HG9 HLT9 HLW9 HT hTn

      obtain ⟨T, c, j, hT⟩ : ∃ T c j, stripT l n = (T, c, j) := ⟨_, _, _, rfl⟩
      have hTn : T.length ≤ 100000 := by have := strip_few l n; rw [hT] at this; exact this
      have HT : Hid (stripT l n = (T, c, j)) := hT
      clear hT

      go_wp2_with fail
      refine (told_open (stripTree_any p l ao co n _ (HEO.out.below HG.out.one.base) (HO.out.below HG.out.one.base) hco HSL.out) HT.out).mono ?_
      rintro e w6 ⟨⟨sa, ct, vt, rfl, hlt, hve⟩, hb6⟩
      have HLT : Hid (LiesAt w6 sa T) := hlt
      have HV : Hid (ErrAt p w6 vt c j) := hve
      have HG6 := Hid.in (HG.out.below hb6)
      clear hlt hve hb6 HG

      go_wp2_with fail
      refine (ref_open (refStripTree_any l a ca n _ (HLO.out.lies.below HG6.out.one.base) HSL.out) HT.out).mono ?_
      rintro e w7 ⟨⟨aw, cw, rfl, hlw⟩, hb7⟩
      have hg7 := HG6.out.below hb7
      have HG8 : Hid (At2 Wo ((w7.setCell ⟨gb, 0, none⟩ (.int .i64 c)).setCell ⟨gb, 1, none⟩ (.int .i64 j)) fb gb _ _ c j) := hg7.set c j
      have HLT8 : Hid (LiesAt ((w7.setCell ⟨gb, 0, none⟩ (.int .i64 c)).setCell ⟨gb, 1, none⟩ (.int .i64 j)) sa T) := hg7.lies (HLT.out.below hb7) _ _
      have HLW8 : Hid (LiesAt ((w7.setCell ⟨gb, 0, none⟩ (.int .i64 c)).setCell ⟨gb, 1, none⟩ (.int .i64 j)) aw T) := hg7.lies hlw _ _
      have HV8 : Hid (ErrAt p ((w7.setCell ⟨gb, 0, none⟩ (.int .i64 c)).setCell ⟨gb, 1, none⟩ (.int .i64 j)) vt c j) := hg7.err (HV.out.below hb7) _ _
      have g0 := hg7.g0
      have g1 := hg7.g1
      have z0 := hg7.z0
      have z1 := hg7.z1
      have s0 := HG8.out.g0
      have s1 := HG8.out.g1
      clear hlw hb7 HLT HV HG6 hg7

      obtain ⟨bb, hbb⟩ : ∃ bb, decide (l = m) = bb := ⟨_, rfl⟩
      have HBB : Hid (decide (l = m) = bb) := hbb
      clear hbb
      go_wp2_with fail
      refine (sameTrees_any l m a a' ca ca' _ (HLO.out.lies.below HG8.out.one.base) (HMO.out.lies.below HG8.out.one.base) hlf hmf).mono ?_
      rintro e w9 ⟨rfl, hb9⟩
      rw [HBB.out]
      have HG9 : Hid (At2 Wo w9 fb gb _ _ c j) := HG8.out.below hb9
      have HLT9 : Hid (LiesAt w9 sa T) := HLT8.out.below hb9
      have HLW9 : Hid (LiesAt w9 aw T) := HLW8.out.below hb9
      have HV9 : Hid (ErrAt p w9 vt c j) := HV8.out.below hb9
      clear hb9 HG8 HLT8 HLW8 HV8 g0 g1 z0 z1 s0 s1
      have s0 := HG9.out.g0
      have s1 := HG9.out.g1
      go_wp2_with fail
      refine (faulted_err HV9.out (HEO.out.below HG9.out.one.base)).mono ?_
      rintro e wA ⟨rfl, hbA⟩
      have HGA : Hid (At2 Wo wA fb gb _ _ c j) := HG9.out.below hbA
      have HLTA : Hid (LiesAt wA sa T) := HLT9.out.below hbA
      have HLWA : Hid (LiesAt wA aw T) := HLW9.out.below hbA
      clear hbA HG9 HLT9 HLW9 HV9 s0 s1
      go_wp2_with fail
      refine (sameTrees_any T T sa aw ct cw _ HLTA.out HLWA.out hTn hTn).mono ?_
      rintro e wB ⟨rfl, hbB⟩
      rw [decide_eq_true rfl]
      have HGB : Hid (At2 Wo wB fb gb _ _ c j) := HGA.out.below hbB
      clear hbB HGA HLTA HLWA
      go_wp2_with fail
      refine (ownFiles_any m a' ca' _ (HMO.out.lies.below HGB.out.one.base) HMO.out.nil hmf).mono ?_
      rintro e wC ⟨⟨v, rfl, hown⟩, hbC⟩
      obtain ⟨am, cm, rfl, hlm, _⟩ := owns_lies hown
      have HLM : Hid (LiesAt wC am m) := hlm
      have HGC : Hid (At2 Wo wC fb gb _ _ c j) := HGB.out.below hbC
      clear hown hlm hbC HGB
      go_wp2_with fail
      refine (same_any l m ao am co cm _ (HO.out.below HGC.out.one.base) HLM.out hlf hmf).mono ?_
      rintro e wD ⟨rfl, hbD⟩
      rw [HBB.out]
      have HGD : Hid (At2 Wo wD fb gb _ _ c j) := HGC.out.below hbD
      clear hbD HGC HLM
      go_wp2_with fail
      refine (sameTrees_any l l ao a co ca _ (HO.out.below HGD.out.one.base) (HLO.out.lies.below HGD.out.one.base) hlf hlf).mono ?_
      rintro e wE ⟨rfl, hbE⟩
      rw [decide_eq_true rfl]
      have HGE : Hid (At2 Wo wE fb gb _ _ c j) := HGD.out.below hbE
      clear hbE HGD
      go_wp2
      go_ret
      exact ⟨rfl, HBO.out.trans (HGE.out.one.base.mono HBO.out.size)⟩
    · have HU : Hid (underT l dir = ([], cf, jf)) := by show underT l dir = _; unfold underT; rw [if_pos (by rw [HTF.out]; exact hcf), HTF.out]
      have hcf' : ((cf : Int) == 0) = false := by simp; omega
      clear hcf
      go_wp2_with fail
      refine (told_open (under_any p l ao co dir _ (HEO.out.below HG.out.one.base) (HO.out.below HG.out.one.base) hco HSL.out (by omega)) HU.out).mono ?_
      rintro e w6 ⟨⟨sa, ct, vt, rfl, hlt, hve⟩, hb6⟩
      have HV : Hid (ErrAt p w6 vt cf jf) := hve
      have HG6 := Hid.in (HG.out.below hb6)
      have f0 := HG6.out.one.c0
      have f1 := HG6.out.one.c1
      clear hlt hve hb6 HG
      go_wp2_with fail
      refine (faulted_err HV.out (HEO.out.below HG6.out.one.base)).mono ?_
      rintro e w9 ⟨rfl, hb9⟩
      have HG9 := Hid.in (HG6.out.below hb9)
      clear hb9 HG6 HV f0 f1
      go_wp2_with fail
      refine (sameTrees_any [] [] sa none ct 0 _ (fun h => absurd rfl h) (fun h => absurd rfl h) (Nat.zero_le _) (Nat.zero_le _)).mono ?_
      rintro e w10 ⟨rfl, hb10⟩
      rw [decide_eq_true rfl]
      have HG := Hid.in (HG9.out.below hb10)
      clear hb10 HG9 HU hcf'

      obtain ⟨T, c, j, hT⟩ : ∃ T c j, graftT l dir m = (T, c, j) := ⟨_, _, _, rfl⟩
      have hTn : T.length ≤ 100000 := by have := graft_few l m dir; rw [hT] at this; exact this
      have HT : Hid (graftT l dir m = (T, c, j)) := hT
      clear hT

      go_wp2_with fail
      refine (ownFiles_any m a' ca' _ (HMO.out.lies.below HG.out.one.base) HMO.out.nil hmf).mono ?_
      rintro e w5 ⟨⟨v, rfl, hown⟩, hb5⟩
      obtain ⟨am, cm, rfl, hlm, _⟩ := owns_lies hown
      have hcm := owns_cap hown
      have HLM : Hid (LiesAt w5 am m) := hlm
      have HG5 := Hid.in (HG.out.below hb5)
      clear hown hlm hb5 HG

      go_wp2_with fail
      refine (told_open (graft_any p l m ao am co cm dir _ (HEO.out.below HG5.out.one.base) (HO.out.below HG5.out.one.base) HLM.out hco hcm HSL.out HSM.out (by omega)) HT.out).mono ?_
      rintro e w6 ⟨⟨sa, ct, vt, rfl, hlt, hve⟩, hb6⟩
      have HLT : Hid (LiesAt w6 sa T) := hlt
      have HV : Hid (ErrAt p w6 vt c j) := hve
      have HG6 := Hid.in (HG5.out.below hb6)
      clear hlt hve hb6 HG5

      go_wp2_with fail
      refine (ref_open (refGraft_any l m a a' ca ca' dir _ (HLO.out.lies.below HG6.out.one.base) (HMO.out.lies.below HG6.out.one.base) HLO.out.nil HSL.out HSM.out (by omega)) HT.out).mono ?_
      rintro e w7 ⟨⟨aw, cw, rfl, hlw⟩, hb7⟩
      have hg7 := HG6.out.below hb7
      have HG8 : Hid (At2 Wo ((w7.setCell ⟨gb, 0, none⟩ (.int .i64 c)).setCell ⟨gb, 1, none⟩ (.int .i64 j)) fb gb _ _ c j) := hg7.set c j
      have HLT8 : Hid (LiesAt ((w7.setCell ⟨gb, 0, none⟩ (.int .i64 c)).setCell ⟨gb, 1, none⟩ (.int .i64 j)) sa T) := hg7.lies (HLT.out.below hb7) _ _
      have HLW8 : Hid (LiesAt ((w7.setCell ⟨gb, 0, none⟩ (.int .i64 c)).setCell ⟨gb, 1, none⟩ (.int .i64 j)) aw T) := hg7.lies hlw _ _
      have HV8 : Hid (ErrAt p ((w7.setCell ⟨gb, 0, none⟩ (.int .i64 c)).setCell ⟨gb, 1, none⟩ (.int .i64 j)) vt c j) := hg7.err (HV.out.below hb7) _ _
      have g0 := hg7.g0
      have g1 := hg7.g1
      have z0 := hg7.z0
      have z1 := hg7.z1
      have s0 := HG8.out.g0
      have s1 := HG8.out.g1
      clear hlw hb7 HLT HV HG6 hg7
      clear HLM hcm

      go_wp2_with fail
      refine (faulted_err HV8.out (HEO.out.below HG8.out.one.base)).mono ?_
      rintro e w9 ⟨rfl, hb9⟩
      have HG9 : Hid (At2 Wo w9 fb gb _ _ c j) := HG8.out.below hb9
      have HLT9 : Hid (LiesAt w9 sa T) := HLT8.out.below hb9
      have HLW9 : Hid (LiesAt w9 aw T) := HLW8.out.below hb9
      clear hb9 HG8 HLT8 HLW8 HV8 g0 g1 z0 z1 s0 s1

      go_wp2_with fail
      refine (sameTrees_any T T sa aw ct cw _ HLT9.out HLW9.out hTn hTn).mono ?_
      rintro e w10 ⟨rfl, hb10⟩
      rw [decide_eq_true rfl]
      have HG : Hid (At2 Wo w10 fb gb _ _ c j) := HG9.out.below hb10
      clear hb10 HG9 HLT9 HLW9 HT hTn

      obtain ⟨T, c, j, hT⟩ : ∃ T c j, stripT l n = (T, c, j) := ⟨_, _, _, rfl⟩
      have hTn : T.length ≤ 100000 := by have := strip_few l n; rw [hT] at this; exact this
      have HT : Hid (stripT l n = (T, c, j)) := hT
      clear hT

      go_wp2_with fail
      refine (told_open (stripTree_any p l ao co n _ (HEO.out.below HG.out.one.base) (HO.out.below HG.out.one.base) hco HSL.out) HT.out).mono ?_
      rintro e w6 ⟨⟨sa, ct, vt, rfl, hlt, hve⟩, hb6⟩
      have HLT : Hid (LiesAt w6 sa T) := hlt
      have HV : Hid (ErrAt p w6 vt c j) := hve
      have HG6 := Hid.in (HG.out.below hb6)
      clear hlt hve hb6 HG

      go_wp2_with fail
      refine (ref_open (refStripTree_any l a ca n _ (HLO.out.lies.below HG6.out.one.base) HSL.out) HT.out).mono ?_
      rintro e w7 ⟨⟨aw, cw, rfl, hlw⟩, hb7⟩
      have hg7 := HG6.out.below hb7
      have HG8 : Hid (At2 Wo ((w7.setCell ⟨gb, 0, none⟩ (.int .i64 c)).setCell ⟨gb, 1, none⟩ (.int .i64 j)) fb gb _ _ c j) := hg7.set c j
      have HLT8 : Hid (LiesAt ((w7.setCell ⟨gb, 0, none⟩ (.int .i64 c)).setCell ⟨gb, 1, none⟩ (.int .i64 j)) sa T) := hg7.lies (HLT.out.below hb7) _ _
      have HLW8 : Hid (LiesAt ((w7.setCell ⟨gb, 0, none⟩ (.int .i64 c)).setCell ⟨gb, 1, none⟩ (.int .i64 j)) aw T) := hg7.lies hlw _ _
      have HV8 : Hid (ErrAt p ((w7.setCell ⟨gb, 0, none⟩ (.int .i64 c)).setCell ⟨gb, 1, none⟩ (.int .i64 j)) vt c j) := hg7.err (HV.out.below hb7) _ _
      have g0 := hg7.g0
      have g1 := hg7.g1
      have z0 := hg7.z0
      have z1 := hg7.z1
      have s0 := HG8.out.g0
      have s1 := HG8.out.g1
      clear hlw hb7 HLT HV HG6 hg7

      obtain ⟨bb, hbb⟩ : ∃ bb, decide (l = m) = bb := ⟨_, rfl⟩
      have HBB : Hid (decide (l = m) = bb) := hbb
      clear hbb
      go_wp2_with fail
      refine (sameTrees_any l m a a' ca ca' _ (HLO.out.lies.below HG8.out.one.base) (HMO.out.lies.below HG8.out.one.base) hlf hmf).mono ?_
      rintro e w9 ⟨rfl, hb9⟩
      rw [HBB.out]
      have HG9 : Hid (At2 Wo w9 fb gb _ _ c j) := HG8.out.below hb9
      have HLT9 : Hid (LiesAt w9 sa T) := HLT8.out.below hb9
      have HLW9 : Hid (LiesAt w9 aw T) := HLW8.out.below hb9
      have HV9 : Hid (ErrAt p w9 vt c j) := HV8.out.below hb9
      clear hb9 HG8 HLT8 HLW8 HV8 g0 g1 z0 z1 s0 s1
      have s0 := HG9.out.g0
      have s1 := HG9.out.g1
      go_wp2_with fail
      refine (faulted_err HV9.out (HEO.out.below HG9.out.one.base)).mono ?_
      rintro e wA ⟨rfl, hbA⟩
      have HGA : Hid (At2 Wo wA fb gb _ _ c j) := HG9.out.below hbA
      have HLTA : Hid (LiesAt wA sa T) := HLT9.out.below hbA
      have HLWA : Hid (LiesAt wA aw T) := HLW9.out.below hbA
      clear hbA HG9 HLT9 HLW9 HV9 s0 s1
      go_wp2_with fail
      refine (sameTrees_any T T sa aw ct cw _ HLTA.out HLWA.out hTn hTn).mono ?_
      rintro e wB ⟨rfl, hbB⟩
      rw [decide_eq_true rfl]
      have HGB : Hid (At2 Wo wB fb gb _ _ c j) := HGA.out.below hbB
      clear hbB HGA HLTA HLWA
      go_wp2_with fail
      refine (ownFiles_any m a' ca' _ (HMO.out.lies.below HGB.out.one.base) HMO.out.nil hmf).mono ?_
      rintro e wC ⟨⟨v, rfl, hown⟩, hbC⟩
      obtain ⟨am, cm, rfl, hlm, _⟩ := owns_lies hown
      have HLM : Hid (LiesAt wC am m) := hlm
      have HGC : Hid (At2 Wo wC fb gb _ _ c j) := HGB.out.below hbC
      clear hown hlm hbC HGB
      go_wp2_with fail
      refine (same_any l m ao am co cm _ (HO.out.below HGC.out.one.base) HLM.out hlf hmf).mono ?_
      rintro e wD ⟨rfl, hbD⟩
      rw [HBB.out]
      have HGD : Hid (At2 Wo wD fb gb _ _ c j) := HGC.out.below hbD
      clear hbD HGC HLM
      go_wp2_with fail
      refine (sameTrees_any l l ao a co ca _ (HO.out.below HGD.out.one.base) (HLO.out.lies.below HGD.out.one.base) hlf hlf).mono ?_
      rintro e wE ⟨rfl, hbE⟩
      rw [decide_eq_true rfl]
      have HGE : Hid (At2 Wo wE fb gb _ _ c j) := HGD.out.below hbE
      clear hbE HGD
      go_wp2
      go_ret
      exact ⟨rfl, HBO.out.trans (HGE.out.one.base.mono HBO.out.size)⟩
end Go.Proofs.YtpogcedghbokbaaGreatDoor
