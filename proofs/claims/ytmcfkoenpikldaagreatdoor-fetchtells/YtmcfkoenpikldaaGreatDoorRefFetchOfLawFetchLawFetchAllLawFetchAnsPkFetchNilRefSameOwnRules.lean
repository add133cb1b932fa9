/-
  Own texts of the proof, joined by program: RefFetchOf, LawFetch, LawFetchAll, LawFetchAns, PkFetchNil, RefSame, OwnRules.
-/
import Derived.Test.YtmcfkoenpikldaaGreatDoorRefOpenWantRefRightWantRefTryOf
import Derived.Test.YtmcfkoenpikldaaGreatDoorHeldRowRefHeldRefHeldPutRefHeldIn
import Derived.Test.YtmcfkoenpikldaaGreatDoorFetchPureFetchMemPkFetchPkFetchWaysPkFetchDoFetchAt
import Derived.Test.YtmcfkoenpikldaaGreatDoorRefRulesLawRulesRefWantRefWaysRefAsk
import Derived.Test.YtmcfkoenpikldaaGreatDoorPkHasPkWantReadWantBox
import Derived.Test.YtmcfkoenpikldaaGreatDoorTreeMemTreeSlotsTreeErrTreeOwn
/-
  The document's answer for fetching: FetchOf: contracts, over this seat's translation.
-/
namespace Go.Proofs.YtmcfkoenpikldaaGreatDoor
open Go.RowKit Go.Shelf

/-- What the document's answer holds beside its net, and that it lies apart from it. -/
structure RefF (w : World) (mb kb : Nat) (vL vO vH : Value) (s : Ns) (most : Nat) (rs : List Rt) : Prop where
  net : RefAt w mb vL vO s
  held : RefHAt w kb vH most rs
  ne : mb ≠ kb
  own : ∀ g, (vL.ownBlock = some g ∨ vO.ownBlock = some g) → g ≠ kb ∧ vH.ownBlock ≠ some g
  ownH : ∀ g, vH.ownBlock = some g → g ≠ mb
  lies : ∀ r ∈ rs, LiesAt w r.a r.l ∧ r.l.length ≤ r.c
  far : ∀ r ∈ rs, r.l ≠ [] → ∀ b o t, r.a = some ⟨b, o, t⟩ → b ≠ mb ∧ b ≠ kb ∧ vL.ownBlock ≠ some b ∧ vO.ownBlock ≠ some b ∧ vH.ownBlock ≠ some b
/-- What a call that fetches leaves of the document's. -/
structure RefFLeft (w : World) (mb kb : Nat) (vL vO vH : Value) (rs : List Rt) (s' : Ns) (most : Nat) (rs' : List Rt) (w' : World) (vL' vO' vH' : Value) : Prop where
  ref : RefF w' mb kb vL' vO' vH' s' most rs'
  below : ∀ B, B ≤ mb → B ≤ kb → Below B w w'
  kept : Kept (fun b => b = mb ∨ b = kb ∨ vL.ownBlock = some b) w w'
  rowL : ∀ g, vL'.ownBlock = some g → vL.ownBlock = some g ∨ w.heap.size ≤ g
  rowO : ∀ g, vO'.ownBlock = some g → vO.ownBlock = some g ∨ w.heap.size ≤ g
  rowH : ∀ g, vH'.ownBlock = some g → vH.ownBlock = some g ∨ w.heap.size ≤ g
  news : ∀ r ∈ rs', r ∈ rs ∨ ∀ b o t, r.a = some ⟨b, o, t⟩ → w.heap.size ≤ b

set_option maxRecDepth 100000 in
set_option maxHeartbeats 4000000 in
theorem fetchOf_bad (kb mb : Nat) (l : List Ru) (a : Option Addr) (ca : Nat) (n u k : List UInt8) (g m : Int) (w : World) (hl : RulesAt w a l) (hs : RuSmall l) (hn : n.length ≤ 40000) (hu : u.length ≤ 20000) (h : (askF (l.map Ru.q) ⟨n, u, k, g, m⟩).1 ≠ 0) :
    Calls Tryz.prog 22 #[.pointer (some ⟨kb, 0, none⟩), .pointer (some ⟨mb, 0, none⟩), .slice a l.length ca, wv ⟨n, u, k, g, m⟩] w fun e w' => e = .returned (.tuple #[.slice none 0 0, .slice none 0 0, .agg #[.int .i64 ((askF (l.map Ru.q) ⟨n, u, k, g, m⟩).1 : Nat), .int .i64 (askF (l.map Ru.q) ⟨n, u, k, g, m⟩).2]]) ∧ Below w.heap.size w w' := by
  obtain ⟨W0, hW0⟩ : ∃ W0, W0 = (w.alloc (wo n u k g m)).alloc (.cells #[.int .i64 0, .int .i64 0] 50) := ⟨_, rfl⟩
  have hr0 : Two W0 (w.heap.size + 1) (.int .i64 0) (.int .i64 0) 50 := by
    rw [hW0]
    have := Two.new (w.alloc (wo n u k g m)) (.int .i64 0) (.int .i64 0) 50
    rwa [World.size_alloc] at this
  have hw0 : WantAt W0 w.heap.size n u k g m := by rw [hW0]; exact (WantAt.new w n u k g m).below ((Below.refl _ _).alloc (Nat.le_refl _) _)
  have hb0 : Below w.heap.size w W0 := by rw [hW0]; exact ((Below.refl _ _).alloc (Nat.le_refl _) _).alloc (by simp) _
  have hz0 : W0.heap.size = w.heap.size + 2 := by rw [hW0]; simp
  have HAF := Lib.hid (askFault_any l a ca n u k g m W0 (hl.below hb0) hs hn hu)
  have HR0 := Lib.hid hr0
  have HB0 := Lib.hid hb0
  obtain ⟨c0, c1, c2, c3, c4⟩ := hw0
  obtain ⟨⟨c, i⟩, hci⟩ : ∃ y, askF (l.map Ru.q) ⟨n, u, k, g, m⟩ = y := ⟨_, rfl⟩
  rw [hci] at h HAF ⊢
  obtain ⟨zc, hzc⟩ : ∃ z : Int, ((c : Nat) : Int) = z := ⟨_, rfl⟩
  simp only at h HAF ⊢
  rw [hzc] at HAF ⊢
  have hpos : (0 : Int) < zc := by omega
  clear hl hs hb0 hr0 h hzc hci
  go_enter Tryz.func22, Tryz.ntmps22
  go_wp2_with fail
  rw [← hW0]
  clear hW0
  refine HAF.out.mono ?_
  rintro e w1 ⟨rfl, hb1⟩
  have hR1 := HR0.out.below hb1 HR0.out.lt
  have hz1 := hb1.size
  have hB1 := HB0.out.trans (hb1.mono HB0.out.size)
  obtain ⟨W, hW⟩ : ∃ W, W = w1.alloc (.cells #[.int .i64 zc, .int .i64 i] 50) := ⟨_, rfl⟩
  have hT : Two W w1.heap.size (.int .i64 zc) (.int .i64 i) 50 := by rw [hW]; exact Two.new _ _ _ _
  have hbW : Below w1.heap.size w1 W := by rw [hW]; exact (Below.refl _ _).alloc (Nat.le_refl _) _
  have hRW := hR1.below hbW hR1.lt
  have HBW := Lib.hid (hB1.trans (hbW.mono hB1.size))
  obtain ⟨x0, x1, x2, x3⟩ := (Two.new w1 (.int .i64 zc) (.int .i64 i) 50).cells
  clear hb1 hbW hR1 hB1 c0 c1 c2 c3 c4 HR0 HB0 HAF
  go_upto_region 3 with fail
  rw [← hW]
  clear hW x0 x1 x2 x3
  obtain ⟨x0, x1, x2, x3⟩ := hT.cells
  obtain ⟨r0, r1, r2, r3⟩ := hRW.cells
  go_region
  all_goals go_wp2
  all_goals
    obtain ⟨q0, q1, _, _⟩ := (hRW.store (.int .i64 zc) (.int .i64 i)).cells
    exact bodyPost_ret (v := .tuple #[.slice none 0 0, .slice none 0 0, .agg #[.int .i64 zc, .int .i64 i]]) (by simp [results, Tryz.results22, go_sem, q0, q1]) rfl ⟨rfl, (below_store _ _ HBW.out (by omega)).drew⟩

/-- What a call that fetches gives, the document's. -/
def GotRF (w : World) (mb kb : Nat) (vL vO vH : Value) (rs : List Rt) (most : Nat) (r : Hs × Ns × List F × List (List UInt8) × Nat × Int) (e : Ending) (w' : World) : Prop :=
  ∃ a ca al cl vL' vO' vH' rs', e = .returned (.tuple #[.slice a r.2.2.1.length ca, .slice al r.2.2.2.1.length cl, .agg #[.int .i64 (r.2.2.2.2.1 : Nat), .int .i64 r.2.2.2.2.2]]) ∧ LiesAt w' a r.2.2.1 ∧ (r.2.2.1 ≠ [] → ∀ b o t, a = some ⟨b, o, t⟩ → (∃ x ∈ rs, x.l ≠ [] ∧ x.a = a) ∨ w.heap.size ≤ b) ∧
    w'.ownsRow w.heap.size 9 1 (.slice al r.2.2.2.1.length cl) r.2.2.2.1.length (r.2.2.2.1.map sv) ∧ RefFLeft w mb kb vL vO vH rs r.2.1 most rs' w' vL' vO' vH' ∧ rs'.map Rt.tr = r.1.l
theorem RefF.below {w w' : World} {mb kb most : Nat} {vL vO vH : Value} {s : Ns} {rs : List Rt} (h : RefF w mb kb vL vO vH s most rs) (hb : Below w.heap.size w w') : RefF w' mb kb vL vO vH s most rs :=
  ⟨h.net.below hb, h.held.below hb, h.ne, h.own, h.ownH, fun r hr => ⟨(h.lies r hr).1.below hb, (h.lies r hr).2⟩, h.far⟩
theorem RefFLeft.of_below {w w' : World} {mb kb most : Nat} {vL vO vH : Value} {s : Ns} {rs : List Rt} (h : RefF w mb kb vL vO vH s most rs) (hb : Below w.heap.size w w') : RefFLeft w mb kb vL vO vH rs s most rs w' vL vO vH :=
  ⟨h.below hb, fun _ h1 _ => hb.mono (Nat.le_trans h1 (Nat.le_of_lt h.net.lt)), Kept.of_below hb, fun _ => .inl, fun _ => .inl, fun _ => .inl, fun _ => .inl⟩

section
variable {w w1 w2 w3 : World} {mb kb most : Nat} {vL vO vH vL' vO' vH' vH2 : Value} {s s' : Ns} {rs rs' : List Rt}
theorem RefF.kept {D : Nat → Prop} (h : RefF w mb kb vL vO vH s most rs) (k : Kept D w w1) (h0 : ¬ D mb) (h1 : ¬ D kb) (h2 : ∀ g, (vL.ownBlock = some g ∨ vO.ownBlock = some g ∨ vH.ownBlock = some g) → ¬ D g) (h3 : ∀ r ∈ rs, r.l ≠ [] → ∀ b o t, r.a = some ⟨b, o, t⟩ → ¬ D b) : RefF w1 mb kb vL vO vH s most rs :=
  ⟨h.net.kept k h0 (fun g e => h2 g (.inl e)) (fun g e => h2 g (.inr (.inl e))), h.held.kept k h1 (fun g e => h2 g (.inr (.inr e))), h.ne, h.own, h.ownH, fun r hr => ⟨lies_left (h.lies r hr).1 k (h3 r hr), (h.lies r hr).2⟩, h.far⟩
theorem RefF.file_lt (h : RefF w mb kb vL vO vH s most rs) : ∀ r ∈ rs, r.l ≠ [] → ∀ b o t, r.a = some ⟨b, o, t⟩ → b < w.heap.size := fun r hr hl b o t e => by
  obtain ⟨j, v, hc⟩ := lies_cell (h.lies r hr).1 hl e
  exact block_lt_of_cell hc
theorem RefF.own_lt (h : RefF w mb kb vL vO vH s most rs) : ∀ g, (vL.ownBlock = some g ∨ vO.ownBlock = some g ∨ vH.ownBlock = some g) → g < w.heap.size := fun g e => by
  rcases e with e | e | e
  · exact (h.net.rows.lt g e).2
  · exact (h.net.offs.lt g e).2
  · exact (h.held.row.lt g e).2
theorem RefFLeft.of_net (h : RefF w mb kb vL vO vH s most rs) (l : RefLeft w mb vL vO s' w1 vL' vO') : RefFLeft w mb kb vL vO vH rs s' most rs w1 vL' vO' vH := by
  have hm := h.net.lt
  have hk := h.held.lt
  have hk1 := h.held.kept l.kept (fun e => by rcases e with e | e; exact h.ne e.symm; exact (h.own kb (.inl e)).1 rfl) (fun g e e2 => by rcases e2 with e2 | e2; exact h.ownH g e e2; exact (h.own g (.inl e2)).2 e)
  refine ⟨⟨l.ref, hk1, h.ne, fun g e => ?_, h.ownH, fun r hr => ⟨lies_left (h.lies r hr).1 l.kept fun hl b o t e e2 => ?_, (h.lies r hr).2⟩, fun r hr hl b o t e => ?_⟩, fun _ h1 _ => l.below.mono h1, ⟨l.kept.size, fun g hg hn => l.kept.block g hg fun e => hn (e.elim .inl (fun e => .inr (.inr e)))⟩, l.rowL, l.rowO, fun g e => .inl e, fun _ h => .inl h⟩
  · have hold : (vL.ownBlock = some g ∨ vO.ownBlock = some g) ∨ w.heap.size ≤ g := by
      rcases e with e | e
      · exact (l.rowL g e).imp .inl id
      · exact (l.rowO g e).imp .inr id
    rcases hold with h1 | h1
    · exact h.own g h1
    · exact ⟨by omega, fun e2 => by have := (h.held.row.lt g e2).2; omega⟩
  · obtain ⟨h1, h2, h3, h4, h5⟩ := h.far r hr hl b o t e
    rcases e2 with e2 | e2
    · exact h1 e2
    · exact h3 e2
  · obtain ⟨h1, h2, h3, h4, h5⟩ := h.far r hr hl b o t e
    have hlt := h.file_lt r hr hl b o t e
    refine ⟨h1, h2, fun e2 => ?_, fun e2 => ?_, h5⟩
    · rcases l.rowL b e2 with e3 | e3
      · exact h3 e3
      · omega
    · rcases l.rowO b e2 with e3 | e3
      · exact h4 e3
      · omega
theorem RefFLeft.write (hm : mb < w.heap.size) (l : RefFLeft w mb kb vL vO vH rs s' most rs' w1 vL' vO' vH') (hF : RefF w2 mb kb vL' vO' vH' s' most rs') (hb : Below w.heap.size w1 w2) : RefFLeft w mb kb vL vO vH rs s' most rs' w2 vL' vO' vH' :=
  ⟨hF, fun B h1 h2 => (l.below B h1 h2).trans (hb.mono (Nat.le_trans h1 (Nat.le_of_lt hm))), ⟨Nat.le_trans l.kept.size hb.size, fun g hg hn => (hb.block g hg).trans (l.kept.block g hg hn)⟩, l.rowL, l.rowO, l.rowH, l.news⟩
theorem RefFLeft.held_step (l : RefFLeft w mb kb vL vO vH rs s' most rs w1 vL' vO' vH') (lh : RefHLeft w1 kb most rs' w2 vH2 vH') {n : Nat} {T : List F} {a : Option Addr} {ca : Nat} (hrs : ∀ r ∈ rs', r ∈ rs ∨ r = ⟨n, T, a, ca⟩) (hT : LiesAt w1 a T) (hc : T.length ≤ ca) (hN : ∀ b o t, a = some ⟨b, o, t⟩ → w.heap.size ≤ b)
    (hf : T ≠ [] → ∀ b o t, a = some ⟨b, o, t⟩ → b ≠ mb ∧ b ≠ kb ∧ vL'.ownBlock ≠ some b ∧ vO'.ownBlock ≠ some b ∧ vH'.ownBlock ≠ some b) : RefFLeft w mb kb vL vO vH rs s' most rs' w2 vL' vO' vH2 := by
  have h := l.ref
  have hm := h.net.lt
  have hk := h.held.lt
  have hz := l.kept.size
  have hfile : ∀ r ∈ rs', (LiesAt w1 r.a r.l ∧ r.l.length ≤ r.c) ∧ (r.l ≠ [] → ∀ b o t, r.a = some ⟨b, o, t⟩ → b ≠ mb ∧ b ≠ kb ∧ vL'.ownBlock ≠ some b ∧ vO'.ownBlock ≠ some b ∧ vH'.ownBlock ≠ some b) := fun r hr => by
    rcases hrs r hr with h1 | rfl
    · exact ⟨h.lies r h1, h.far r h1⟩
    · exact ⟨⟨hT, hc⟩, hf⟩
  refine ⟨⟨h.net.kept lh.kept (fun e => h.ne e) (fun g e e2 => (h.own g (.inl e)).1 e2) (fun g e e2 => (h.own g (.inr e)).1 e2), lh.ref, h.ne, fun g e => ⟨(h.own g e).1, fun e2 => ?_⟩, fun g e => ?_, fun r hr => ⟨lies_left (hfile r hr).1.1 lh.kept fun hl b o t e e2 => ((hfile r hr).2 hl b o t e).2.1 e2, (hfile r hr).1.2⟩, fun r hr hl b o t e => ?_⟩,
    fun B h1 h2 => (l.below B h1 h2).trans (lh.below.mono h2), ⟨Nat.le_trans hz lh.kept.size, fun g hg hn => (lh.kept.block g (by omega) fun e => hn (.inr (.inl e))).trans (l.kept.block g hg hn)⟩, l.rowL, l.rowO, fun g e => ?_, fun r hr => (hrs r hr).imp id (fun e => by subst e; exact hN)⟩
  · rcases lh.row g e2 with e3 | e3
    · exact (h.own g e).2 e3
    · have := h.own_lt g (e.elim .inl (fun e => .inr (.inl e)))
      omega
  · rcases lh.row g e with e3 | e3
    · exact h.ownH g e3
    · omega
  · obtain ⟨h1, h2, h3, h4, h5⟩ := (hfile r hr).2 hl b o t e
    refine ⟨h1, h2, h3, h4, fun e2 => ?_⟩
    rcases lh.row b e2 with e3 | e3
    · exact h5 e3
    · obtain ⟨j, v, hcell⟩ := lies_cell (hfile r hr).1.1 hl e
      have hbl : b < w1.heap.size := block_lt_of_cell hcell
      omega
  · rcases lh.row g e with e3 | e3
    · exact l.rowH g e3
    · exact .inr (Nat.le_trans hz e3)
/-- New calls ahead of it. -/
theorem RefFLeft.ahead (hm : mb < w.heap.size) (hb : Below w.heap.size w w1) (l : RefFLeft w1 mb kb vL vO vH rs s' most rs' w2 vL' vO' vH') : RefFLeft w mb kb vL vO vH rs s' most rs' w2 vL' vO' vH' := by
  have hz := hb.size
  exact ⟨l.ref, fun B h1 h2 => (hb.mono (Nat.le_trans h1 (Nat.le_of_lt hm))).trans (l.below B h1 h2), ⟨Nat.le_trans hz l.kept.size, fun g hg hn => (l.kept.block g (by omega) hn).trans (hb.block g hg)⟩, fun g e => (l.rowL g e).imp id (fun h => by omega), fun g e => (l.rowO g e).imp id (fun h => by omega), fun g e => (l.rowH g e).imp id (fun h => by omega), fun r hr => (l.news r hr).imp id (fun h b o t e => Nat.le_trans hz (h b o t e))⟩
end

theorem gotRF_end {w W5 : World} {rb B mb kb most : Nat} {vL vO vH vL3 vO3 vH' : Value} {s3 : Ns} {rs rs' : List Rt} {T : List F} {ls : List (List UInt8)} {c : Nat} {i : Int} {a3 al : Option Addr} {c3 cl : Nat} {h' : Hs} {r : Hs × Ns × List F × List (List UInt8) × Nat × Int} (x y : Value)
    (l : RefFLeft w mb kb vL vO vH rs s3 most rs' W5 vL3 vO3 vH') (hm : mb < w.heap.size) (hk : kb < w.heap.size) (h1 : w.heap.size ≤ rb) (h2 : ∀ g, (vL3.ownBlock = some g ∨ vO3.ownBlock = some g ∨ vH'.ownBlock = some g) → g ≠ rb) (h3 : ∀ r ∈ rs', r.l ≠ [] → ∀ b o t, r.a = some ⟨b, o, t⟩ → b ≠ rb)
    (h4 : LiesAt W5 a3 T) (h5 : ∀ b o t, a3 = some ⟨b, o, t⟩ → b ≠ rb) (h6 : ∀ b o t, a3 = some ⟨b, o, t⟩ → w.heap.size ≤ b) (hL : W5.ownsRow B 9 1 (.slice al ls.length cl) ls.length (ls.map sv)) (hB : rb < B) (hh : h'.l = rs'.map Rt.tr) (hr : r = (h', s3, T, ls, c, i)) :
    GotRF w mb kb vL vO vH rs most r (.returned (.tuple #[.slice a3 T.length c3, .slice al ls.length cl, .agg #[.int .i64 (c : Nat), .int .i64 i]])) ((W5.setCell ⟨rb, 0, none⟩ x).setCell ⟨rb, 1, none⟩ y).drew := by
  have hb : Below w.heap.size W5 ((W5.setCell ⟨rb, 0, none⟩ x).setCell ⟨rb, 1, none⟩ y).drew := (below_store _ _ (Below.refl _ _) h1).drew
  have hk5 : Kept (fun g => g = rb) W5 ((W5.setCell ⟨rb, 0, none⟩ x).setCell ⟨rb, 1, none⟩ y).drew := ⟨hb.size, fun g _ hn => (heap_store (w := W5) x y hn)⟩
  subst hr
  exact ⟨a3, c3, al, cl, vL3, vO3, vH', rs', rfl, lies_left h4 hk5 (fun _ b o t e => h5 b o t e), fun _ b o t e => .inr (h6 b o t e), (row_slot (b := rb) x y hL hB).mono (by omega), l.write hm (l.ref.kept hk5 (by omega) (by omega) h2 h3) hb, hh.symm⟩

set_option maxRecDepth 100000 in
set_option maxHeartbeats 8000000 in
theorem fetchOf_good (kb mb : Nat) (vL vO vH : Value) (s : Ns) (most : Nat) (rs : List Rt) (l : List Ru) (a : Option Addr) (ca : Nat) (n u k : List UInt8) (g m : Int) (w : World) (hF : RefF w mb kb vL vO vH s most rs) (hrl : rs.length ≤ 1000) (hsl : s.l.length ≤ 1000) (hso : s.off.length ≤ 1000) (hc : s.calls ≤ 900) (ht : ∀ x ∈ s.l, x.t.length ≤ 90000) (hl : RulesAt w a l) (hs : RuSmall l) (hn : n.length ≤ 40000) (hu : u.length ≤ 20000) (h : (askF (l.map Ru.q) ⟨n, u, k, g, m⟩).1 = 0) :
    Calls Tryz.prog 22 #[.pointer (some ⟨kb, 0, none⟩), .pointer (some ⟨mb, 0, none⟩), .slice a l.length ca, wv ⟨n, u, k, g, m⟩] w fun e w' => GotRF w mb kb vL vO vH rs most (fetchF (l.map Ru.q) ⟨n, u, k, g, m⟩ ⟨most, rs.map Rt.tr⟩ s) e w' := by
  obtain ⟨W0, hW0⟩ : ∃ W0, W0 = (w.alloc (wo n u k g m)).alloc (.cells #[.int .i64 0, .int .i64 0] 50) := ⟨_, rfl⟩
  have hr0 : Two W0 (w.heap.size + 1) (.int .i64 0) (.int .i64 0) 50 := by
    rw [hW0]
    have := Two.new (w.alloc (wo n u k g m)) (.int .i64 0) (.int .i64 0) 50
    rwa [World.size_alloc] at this
  have hw0 : WantAt W0 w.heap.size n u k g m := by rw [hW0]; exact (WantAt.new w n u k g m).below ((Below.refl _ _).alloc (Nat.le_refl _) _)
  have hb0 : Below w.heap.size w W0 := by rw [hW0]; exact ((Below.refl _ _).alloc (Nat.le_refl _) _).alloc (by simp) _
  have hsz0 : W0.heap.size = w.heap.size + 2 := by rw [hW0]; simp
  have haf := askFault_any l a ca n u k g m W0 (hl.below hb0) hs hn hu
  rw [ask_fine h] at haf
  have HAF := Lib.hid haf
  have HR0 := Lib.hid hr0
  have HB0 := Lib.hid hb0
  have HW0 := Lib.hid hw0
  have HF := Lib.hid hF
  have HLL := Lib.hid hl
  have HS := Lib.hid hs
  have HTX := Lib.hid ht
  have HASK := Lib.hid h
  obtain ⟨c0, c1, c2, c3, c4⟩ := hw0
  clear hl hs hb0 hr0 h hF ht haf
  go_enter Tryz.func22, Tryz.ntmps22
  go_wp2_with fail
  rw [← hW0]
  clear hW0
  refine HAF.out.mono ?_
  rintro e w1 ⟨rfl, hb1⟩
  have hz1 := hb1.size
  have hB1 := HB0.out.trans (hb1.mono HB0.out.size)
  have hbx : Below w1.heap.size w1 (w1.alloc (.cells #[.int .i64 0, .int .i64 (-1)] 50)) := (Below.refl _ _).alloc (Nat.le_refl _) _
  obtain ⟨x0, x1, _, _⟩ := (Two.new w1 (.int .i64 0) (.int .i64 (-1)) 50).cells
  clear c0 c1 c2 c3 c4
  obtain ⟨c0, c1, c2, c3, c4⟩ := (HW0.out.below hb1).below hbx
  obtain ⟨W, hW⟩ : ∃ W, W = w1.alloc (.cells #[.int .i64 0, .int .i64 (-1)] 50) := ⟨_, rfl⟩
  have hTW : Two W w1.heap.size (.int .i64 0) (.int .i64 (-1)) 50 := by rw [hW]; exact Two.new _ _ _ _
  have hRW : Two W (w.heap.size + 1) (.int .i64 0) (.int .i64 0) 50 := by rw [hW]; exact (HR0.out.below hb1 HR0.out.lt).below hbx (by omega)
  have hWW : WantAt W w.heap.size n u k g m := by rw [hW]; exact (HW0.out.below hb1).below hbx
  have hBW : Below w.heap.size w W := by rw [hW]; exact hB1.trans (hbx.mono hB1.size)
  have hfl : w.heap.size + 1 < w1.heap.size ∧ w1.heap.size < W.heap.size := ⟨by omega, hTW.lt⟩
  have HWL := Lib.hid (HLL.out.below hBW)
  have HFW := Lib.hid (HF.out.below hBW)
  go_wp2_with fail
  rw [← hW]
  clear hb1 hbx hB1 hz1 hsz0 x0 x1 c0 c1 c2 c3 c4 hW HR0 HB0 HW0 HAF HLL
  generalize w1.heap.size = fb at *
  refine (refHFind_any kb most vH rs m W HFW.out.held (by omega)).mono ?_
  rintro e w2 ⟨rfl, rfl⟩
  cases hk : spotH (rs.map Rt.tr) m with
  | some q =>
    have hql : q < rs.length := by
      obtain ⟨h1, _⟩ := spotH_some hk
      simpa using h1
    rw [atH_some hk]
    have hFT := fetch_held (x := ⟨n, u, k, g, m⟩) (s := s) (h := ⟨most, rs.map Rt.tr⟩) HASK.out hk (by simpa using hql)
    have hq0 : (0 : Int) ≤ (q : Int) := by omega
    have hqz : ¬ ((q : Int) < 0) := by omega
    have hql' : (q : Int) < (rs.length : Int) := by omega
    obtain ⟨gb, cap, hv, hcap, k0, k1⟩ := HFW.out.held.site hql
    subst hv
    have k2 := HFW.out.held.c1
    have hbh : Below w2.heap.size w2 (w2.alloc (.cells #[.string ⟨#[104, 101, 108, 100]⟩] 9)) := (Below.refl _ _).alloc (Nat.le_refl _) _
    have hRA := hRW.below hbh hRW.lt
    obtain ⟨r0, r1, r2, r3⟩ := hRA.cells
    obtain ⟨f0, f1, f2, f3⟩ := (hTW.below hbh hTW.lt).cells
    have k1' := (hbh.cell (p := ⟨gb, q * 2 + 1, none⟩) (block_lt_of_cell k1)).trans k1
    have k2' := (hbh.cell (p := ⟨kb, 1, none⟩) (block_lt_of_cell k2)).trans k2
    obtain ⟨g0, g1, g2, g3⟩ := hRW.cells
    obtain ⟨h0, h1, h2, h3⟩ := hTW.cells
    clear k0
    go_upto_region 6 with fail
    go_region
    all_goals
      have hbF : Below w.heap.size w (((w2.alloc (.cells #[.string ⟨#[104, 101, 108, 100]⟩] 9)).setCell ⟨w.heap.size + 1, 0, none⟩ (.int .i64 0)).setCell ⟨w.heap.size + 1, 1, none⟩ (.int .i64 (-1))).drew := (below_store _ _ (hBW.trans (hbh.mono hBW.size)) (by omega)).drew
      have hFF := RefFLeft.of_below HF.out hbF
      have hLN := (row_slot (b := w.heap.size + 1) (.int .i64 0) (.int .i64 (-1)) (held_line w2 w2.heap.size [104, 101, 108, 100] (Nat.le_refl _)) (by omega)).mono (show w.heap.size ≤ w2.heap.size by omega)
      obtain ⟨q0, q1, _, _⟩ := (hRA.store (.int .i64 0) (.int .i64 (-1))).cells
      have HG : Hid (GotRF w mb kb vL vO (.slice (some ⟨gb, 0, none⟩) rs.length cap) rs most (fetchF (l.map Ru.q) ⟨n, u, k, g, m⟩ ⟨most, rs.map Rt.tr⟩ s) (.returned (.tuple #[.slice rs[q].a rs[q].l.length rs[q].c, .slice (some ⟨w2.heap.size, 0, none⟩) 1 1, .agg #[.int .i64 0, .int .i64 (-1)]])) (((w2.alloc (.cells #[.string ⟨#[104, 101, 108, 100]⟩] 9)).setCell ⟨w.heap.size + 1, 0, none⟩ (.int .i64 0)).setCell ⟨w.heap.size + 1, 1, none⟩ (.int .i64 (-1))).drew) := by
        show GotRF _ _ _ _ _ _ _ _ _ _ _
        rw [hFT]
        exact ⟨rs[q].a, rs[q].c, some ⟨w2.heap.size, 0, none⟩, 1, vL, vO, _, rs, by simp [Rt.tr, heldF], by simpa [Rt.tr] using (hFF.ref.lies rs[q] (List.getElem_mem hql)).1, fun hne b o t e => .inl ⟨rs[q], List.getElem_mem hql, by simpa [Rt.tr] using hne, rfl⟩, hLN, hFF, rfl⟩
      clear hbF hFF hLN
      go_wp2
      exact bodyPost_ret (v := .tuple #[.slice rs[q].a rs[q].l.length rs[q].c, .slice (some ⟨w2.heap.size, 0, none⟩) 1 1, .agg #[.int .i64 0, .int .i64 (-1)]]) (by simp [results, Tryz.results22, go_sem, q0, q1]) rfl HG.out
  | none =>
    have hft := fetch_tried (x := ⟨n, u, k, g, m⟩) (s := s) (h := ⟨most, rs.map Rt.tr⟩) HASK.out hk
    have hty := tryOf_good mb vL vO s l a ca n u k g m w2 HFW.out.net hsl hso hc HTX.out HWL.out HS.out hn hu HASK.out
    obtain ⟨r, hr⟩ : ∃ y, waysF ⟨n, u, k, g, m⟩ s (waysL (closestQ u (l.map Ru.q)) u) 0 = y := ⟨_, rfl⟩
    have hgood := waysF_good ⟨n, u, k, g, m⟩ (waysL (closestQ u (l.map Ru.q)) u) s 0 (.inl (waysL_ne _ _))
    rw [try_ways HASK.out hr] at hft hty
    rw [hr] at hgood
    obtain ⟨s3, T, ls, c⟩ := r
    simp only at hft hty hgood
    have HFT := Lib.hid hft
    have HTY := Lib.hid hty
    have HGD := Lib.hid hgood
    rw [atH_none hk]
    obtain ⟨c0, c1, c2, c3, c4⟩ := hWW
    clear hk hr hft hty hgood
    go_wp2_with fail
    refine HTY.out.mono ?_
    rintro e w3 ⟨v, al, cl, vL3, vO3, rfl, hrT, hrL, l3, hap⟩
    simp only at hrT hrL l3 ⊢
    obtain ⟨a3, c3', rfl, hlT, hnT⟩ := owns_lies hrT
    have hk3 := l3.kept
    have hz3 := hk3.size
    have hmw := HF.out.net.lt
    have hkw := HF.out.held.lt
    have hfw : w.heap.size < fb ∧ fb < w2.heap.size ∧ fb ≠ w.heap.size + 1 := by omega
    have hT3 := hTW.keep (hk3.block fb hTW.lt (fun h => by
      rcases h with h | h
      · omega
      · have := HF.out.own_lt fb (.inl h); omega))
    have hR3 := hRW.keep (hk3.block (w.heap.size + 1) hRW.lt (fun h => by
      rcases h with h | h
      · omega
      · have := HF.out.own_lt _ (.inl h); omega))
    have hl3 := RefFLeft.ahead hmw hBW (RefFLeft.of_net HFW.out l3)
    have hin : ∀ g, (vL3.ownBlock = some g ∨ vO3.ownBlock = some g ∨ vH.ownBlock = some g) → ¬ (w.heap.size ≤ g ∧ g < w2.heap.size) := fun g e h => by
      rcases e with e | e | e
      · rcases l3.rowL g e with h1 | h1
        · have := HF.out.own_lt g (.inl h1); omega
        · omega
      · rcases l3.rowO g e with h1 | h1
        · have := HF.out.own_lt g (.inr (.inl h1)); omega
        · omega
      · have := HF.out.own_lt g (.inr (.inr e)); omega
    have hinf : ∀ r ∈ rs, r.l ≠ [] → ∀ b o t, r.a = some ⟨b, o, t⟩ → ¬ (w.heap.size ≤ b ∧ b < w2.heap.size) := fun r hr hl b o t e h => by
      have := HF.out.file_lt r hr hl b o t e; omega
    have HIN := Lib.hid hin
    have HINF := Lib.hid hinf
    obtain ⟨W4, hW4⟩ : ∃ W4, W4 = (w3.setCell ⟨fb, 0, none⟩ (.int .i64 (c : Nat))).setCell ⟨fb, 1, none⟩ (.int .i64 (-1)) := ⟨_, rfl⟩
    have hk4 : Kept (fun g => w.heap.size ≤ g ∧ g < w2.heap.size) w3 W4 := by
      rw [hW4]
      exact ⟨(below_store (B := w.heap.size) _ _ (Below.refl _ _) (by omega)).size, fun g hg hn => heap_store _ _ (fun e => hn ⟨by omega, by omega⟩)⟩
    have hb4 : Below w.heap.size w3 W4 := by
      rw [hW4]
      exact below_store _ _ (Below.refl _ _) (by omega)
    have hT4 : Two W4 fb (.int .i64 (c : Nat)) (.int .i64 (-1)) 50 := by rw [hW4]; exact hT3.store _ _
    have hR4 : Two W4 (w.heap.size + 1) (.int .i64 0) (.int .i64 0) 50 := by
      rw [hW4]
      exact hR3.keep (heap_store _ _ (by omega))
    have HL4 := Lib.hid (hl3.write hmw (hl3.ref.kept hk4 (by omega) (by omega) hin hinf) hb4)
    have HLT4 : Hid (LiesAt W4 a3 T) := lies_left hlT hk4 fun hl b o t e h => by
      have := (hrT.lt b (by rw [e]; rfl)).1
      omega
    have HFAR : Hid (∀ b o t, a3 = some ⟨b, o, t⟩ → w2.heap.size ≤ b ∧ b ≠ mb ∧ b ≠ kb ∧ vL3.ownBlock ≠ some b ∧ vO3.ownBlock ≠ some b ∧ vH.ownBlock ≠ some b) := fun b o t e => by
      have h1 := (hrT.lt b (by rw [e]; rfl)).1
      have h2 := hap b (by rw [e]; rfl)
      exact ⟨h1, by omega, by omega, h2.1, h2.2, fun h3 => by have := HF.out.own_lt b (.inr (.inr h3)); omega⟩
    have HLL4 : Hid (W4.ownsRow w2.heap.size 9 1 (.slice al ls.length cl) ls.length (ls.map sv)) := owns_kept hrL fun g e => hk4.block g (hrL.lt g e).2 (fun h => by have := (hrL.lt g e).1; omega)
    clear c0 c1 c2 c3 c4 HTY hk4 hb4 hin hinf hl3 l3 hk3
    obtain ⟨f0, f1, f2, f3⟩ := hT3.cells
    have hcap : T.length ≤ c3' := by
      rcases hrT.2 with ⟨h1, h2⟩ | ⟨gg, cap, cur, h1, _, _, h3, _⟩
      · omega
      · simp only [Value.slice.injEq] at h1
        omega
    have hrb : w.heap.size ≤ w.heap.size + 1 := by omega
    have hrb2 : w.heap.size + 1 < w2.heap.size := by omega
    have hz4 : w2.heap.size ≤ W4.heap.size := by
      rw [hW4]
      exact Nat.le_trans hz3 (below_store (B := w.heap.size) _ _ (Below.refl _ _) (by omega)).size
    cases c with
    | succ c =>
      obtain ⟨zc, hzc⟩ : ∃ z : Int, ((c + 1 : Nat) : Int) = z := ⟨_, rfl⟩
      rw [hzc] at hW4 hT4 ⊢
      have hcz : (zc == 0) = false := by simp; omega
      have HE : Hid (GotRF w mb kb vL vO vH rs most (fetchF (l.map Ru.q) ⟨n, u, k, g, m⟩ ⟨most, rs.map Rt.tr⟩ s) (.returned (.tuple #[.slice a3 T.length c3', .slice al ls.length cl, .agg #[.int .i64 zc, .int .i64 (-1)]])) ((W4.setCell ⟨w.heap.size + 1, 0, none⟩ (.int .i64 zc)).setCell ⟨w.heap.size + 1, 1, none⟩ (.int .i64 (-1))).drew) := by
        rw [← hzc]
        exact gotRF_end _ _ HL4.out hmw hkw hrb (fun g e h => HIN.out g e (by omega)) (fun r hr hl b o t e h => HINF.out r hr hl b o t e (by omega)) HLT4.out (fun b o t e h => by have := (HFAR.out b o t e).1; omega) (fun b o t e => by have := (HFAR.out b o t e).1; omega) HLL4.out hrb2 rfl (by rw [HFT.out, if_neg (by simp)])
      have HR4 := Lib.hid hR4
      clear hcap hlT hnT hrT hrL hap HFT HGD hzc
      go_upto_region 10 with fail
      rw [← hW4]
      clear hW4 f0 f1 f2 f3 hT3 hR3
      obtain ⟨f0, f1, f2, f3⟩ := hT4.cells
      obtain ⟨r0, r1, r2, r3⟩ := hR4.cells
      go_region
      all_goals
        obtain ⟨q0, q1, _, _⟩ := (HR4.out.store (.int .i64 zc) (.int .i64 (-1))).cells
        go_wp2
        exact bodyPost_ret (v := .tuple #[.slice a3 T.length c3', .slice al ls.length cl, .agg #[.int .i64 zc, .int .i64 (-1)]]) (by simp [results, Tryz.results22, go_sem, q0, q1]) rfl HE.out
    | zero =>
      obtain ⟨ht1, _, _⟩ := HGD.out.1 rfl
      have HSMT := Lib.hid (tree_small ht1)
      have hW4z : W4 = (w3.setCell ⟨fb, 0, none⟩ (.int .i64 0)).setCell ⟨fb, 1, none⟩ (.int .i64 (-1)) := hW4
      clear ht1 hlT hnT hrT hrL hap
      go_wp2_with fail
      rw [← hW4z]
      clear hW4 hW4z f0 f1 f2 f3 hT3 hR3
      refine (refHPut_any kb most vH rs T a3 c3' W4 HL4.out.ref.held (by omega) HLT4.out HSMT.out).mono ?_
      rintro e w5 ⟨rfl, vH5, rs5, lh, hmap, hrs⟩
      have hk5 := lh.kept
      have hz5 := hk5.size
      have hT5 := hT4.keep (hk5.block fb hT4.lt (by omega))
      have hR5 := hR4.keep (hk5.block (w.heap.size + 1) hR4.lt (by omega))
      have HR5 := Lib.hid hR5
      have HL5 := Lib.hid (HL4.out.held_step lh hrs HLT4.out hcap (fun b o t e => by have := (HFAR.out b o t e).1; omega) (fun _ b o t e => (HFAR.out b o t e).2))
      have HE : Hid (GotRF w mb kb vL vO vH rs most (fetchF (l.map Ru.q) ⟨n, u, k, g, m⟩ ⟨most, rs.map Rt.tr⟩ s) (.returned (.tuple #[.slice a3 T.length c3', .slice al ls.length cl, .agg #[.int .i64 ((0 : Nat) : Int), .int .i64 (-1)]])) ((w5.setCell ⟨w.heap.size + 1, 0, none⟩ (.int .i64 0)).setCell ⟨w.heap.size + 1, 1, none⟩ (.int .i64 (-1))).drew) :=
        gotRF_end _ _ HL5.out hmw hkw hrb (fun g e h => by
          rcases e with e | e | e
          · exact HIN.out g (.inl e) (by omega)
          · exact HIN.out g (.inr (.inl e)) (by omega)
          · rcases lh.row g e with e | e
            · exact HIN.out g (.inr (.inr e)) (by omega)
            · omega) (fun r hr hl b o t e h => by
          rcases hrs r hr with h1 | rfl
          · exact HINF.out r h1 hl b o t e (by omega)
          · have := (HFAR.out b o t e).1; omega) (lies_left HLT4.out hk5 (fun _ b o t e h => (HFAR.out b o t e).2.2.1 h)) (fun b o t e h => by have := (HFAR.out b o t e).1; omega) (fun b o t e => by have := (HFAR.out b o t e).1; omega) (owns_kept HLL4.out fun g e => hk5.block g (HLL4.out.lt g e).2 (fun h => by have := (HLL4.out.lt g e).1; omega)) hrb2 hmap.symm (by rw [HFT.out]; simp)
      clear hmap hrs lh hk5 hcap HFT HGD hT4 hR4
      obtain ⟨f0, f1, f2, f3⟩ := hT5.cells
      obtain ⟨r0, r1, r2, r3⟩ := hR5.cells
      go_upto_region 10 with fail
      go_region
      all_goals
        obtain ⟨q0, q1, _, _⟩ := (HR5.out.store (.int .i64 0) (.int .i64 (-1))).cells
        go_wp2
        exact bodyPost_ret (v := .tuple #[.slice a3 T.length c3', .slice al ls.length cl, .agg #[.int .i64 0, .int .i64 (-1)]]) (by simp [results, Tryz.results22, go_sem, q0, q1]) rfl HE.out
end Go.Proofs.YtmcfkoenpikldaaGreatDoor
/-
  The closed fact of the laws on fetching, and what is too long to be asked: over whatever the program's net is and what it holds (by their contracts), and this seat's translation.
-/
namespace Go.Proofs.YtmcfkoenpikldaaGreatDoor
open Go.RowKit Go.Shelf

/-- Too long, to be asked? -/
def longAskB (l : List Ru) (n u k : List UInt8) : Bool := decide (longR l ≠ 0) || decide (longW n u k ≠ 0)
theorem longAsk_no {l : List Ru} {n u k : List UInt8} (h : longAskB l n u k = false) : (longR l : Int) = 0 ∧ longW n u k = 0 := by
  simp only [longAskB, Bool.or_eq_false_iff, decide_eq_false_iff_not] at h
  omega
set_option maxRecDepth 100000 in
set_option maxHeartbeats 1000000 in
theorem longAsk_any (l : List Ru) (a : Option Addr) (ca : Nat) (n u k : List UInt8) (g m : Int) (w : World) (hl : RulesAt w a l) (hm : l.length ≤ maxLen) (hf : ∀ r ∈ l, r.f.length ≤ maxLen ∧ r.t.length ≤ maxLen ∧ ∀ t ∈ r.t, t.length ≤ maxLen) :
    Calls Tryz.prog 10 #[.slice a l.length ca, wv ⟨n, u, k, g, m⟩] w fun e w' => e = .returned (.bool (longAskB l n u k)) ∧ Below w.heap.size w w' := by
  have hb0 : Below w.heap.size w (w.alloc (wo n u k g m)) := (Below.refl _ _).alloc (Nat.le_refl _) _
  have HL := Lib.hid (hl.below hb0)
  have HB := Lib.hid hb0
  have HF := Lib.hid hf
  obtain ⟨c0, c1, c2, c3, c4⟩ := WantAt.new w n u k g m
  clear hl hb0 hf
  rcases longR_or l with h0 | h0
  · obtain ⟨z, hz⟩ : ∃ z : Int, ((longW n u k : Nat) : Int) = z := ⟨_, rfl⟩
    have HZ : Hid (longAskB l n u k = decide (z > 0)) := by
      show longAskB l n u k = _
      unfold longAskB
      rw [decide_eq_false (by omega), Bool.false_or]
      exact decide_eq_decide.2 (by omega)
    have H0 := Lib.hid h0
    have HW := Lib.hid hz
    clear h0 hz
    go_enter Tryz.func10, Tryz.ntmps10
    go_wp2_with fail
    refine (longRules_is l a ca 0 _ HL.out hm HF.out H0.out).mono ?_
    rintro e w' ⟨rfl, rfl⟩
    go_wp2_with fail
    refine (longWant_is n u k g m z _ HW.out).mono ?_
    rintro e w2 ⟨rfl, hb2⟩
    have HB2 := Lib.hid (HB.out.trans (hb2.mono HB.out.size))
    clear hb2 c0 c1 c2 c3 c4
    go_wp2
    go_ret
    exact ⟨by rw [HZ.out]; rfl, HB2.out⟩
  · have HZ : Hid (longAskB l n u k = true) := by
      show longAskB l n u k = _
      unfold longAskB
      rw [decide_eq_true (by omega), Bool.true_or]
    have H0 := Lib.hid h0
    clear h0
    go_enter Tryz.func10, Tryz.ntmps10
    go_wp2_with fail
    refine (longRules_is l a ca 1 _ HL.out hm HF.out H0.out).mono ?_
    rintro e w' ⟨rfl, rfl⟩
    clear c0 c1 c2 c3 c4
    go_wp2
    go_ret
    exact ⟨by rw [HZ.out]; rfl, HB.out⟩

def fUrl : List UInt8 := [104, 116, 116, 112, 58, 47, 47, 104, 47, 120]
def fHi : List UInt8 := [104, 105]
abbrev fetA : F := ⟨[97], false, [104, 105]⟩
def fW : Wt := ⟨[97], fUrl, kPlain, 0, (sumT [fetA] : Int)⟩
theorem fet_tree : treeFault [fetA] = (0, -1) := by kernel_rfl
theorem fet_sum : isS (sumT [fetA] : Int) = true := by
  rw [sum_yes (by rw [fet_tree])]
  have := sumL_lt (packL [fetA])
  unfold Mo at this
  simp only [isS, decide_eq_true_eq]
  omega
theorem fet_code : wantCode fW = 0 := by
  rw [want_sum (x := fW) (by decide) (by decide +kernel) (by decide) (by decide) (by decide)]
  show (if isS (sumT [fetA] : Int) = false then 2 else 0) = 0
  rw [fet_sum]
  rfl
theorem fet_rules : rulesF [] = (0, -1) := by decide
theorem fet_ask : (askF [] fW).1 = 0 := by
  rw [ask_want (by rw [fet_rules])]
  exact fet_code
theorem fet_ways : waysL (closestQ fW.u []) fW.u = [fUrl] := by decide +kernel
theorem fet_put : (putN Ns.none fUrl fHi).2 = 0 := by decide +kernel
theorem fet_get : (getN (putN Ns.none fUrl fHi).1 fUrl).2 = (fHi, 0) := by decide +kernel
theorem fet_calls : (putN Ns.none fUrl fHi).1.calls ≤ 900 := by decide +kernel
theorem fet_texts : ∀ x ∈ (putN Ns.none fUrl fHi).1.l, x.t.length ≤ 90000 := by
  have h : (putN Ns.none fUrl fHi).1.l.all (fun x => decide (x.t.length ≤ 90000)) = true := by decide +kernel
  intro x hx
  simpa using List.all_eq_true.1 h x hx
theorem fet_right : rightW fW fHi = ([fetA], 0) := by
  have h1 : plainT fW fHi = ([fetA], 0) := by
    show (if (treeFault [fetA]).1 = 0 then ([fetA], 0) else ([], (treeFault [fetA]).1)) = _
    rw [fet_tree]
    rfl
  have h2 : openW fW fHi = ([fetA], 0) := by rw [openW_plain fet_code (by decide) rfl, h1]
  unfold rightW
  rw [h2, if_neg (by simp), if_pos]
  show (treeFault [fetA]).1 = 0 ∧ ((sumL (packL [fetA]) : Nat) : Int) = (sumT [fetA] : Int)
  rw [sum_yes (by rw [fet_tree]), fet_tree]
  exact ⟨rfl, rfl⟩
theorem fet_way : (wayF fW (putN Ns.none fUrl fHi).1 fUrl).2 = ([fetA], 0) := by
  unfold wayF
  rw [if_neg (by rw [fet_get]; simp), fet_get]
  exact fet_right
theorem fet_tried : waysF fW (putN Ns.none fUrl fHi).1 [fUrl] 0 = ((wayF fW (putN Ns.none fUrl fHi).1 fUrl).1, [fetA], [lineF fUrl 0], 0) := by
  have h := fet_way
  generalize hx : wayF fW (putN Ns.none fUrl fHi).1 fUrl = x at h
  obtain ⟨x1, x2⟩ := x
  simp only at h
  subst h
  rw [waysF, hx, if_pos rfl]
theorem fet_fetch : (fetchF [] fW (Hs.none (mostH 3)) (putN Ns.none fUrl fHi).1).2.2 = ([fetA], [lineF fUrl 0], 0, -1) := by
  have hx : waysF fW (putN Ns.none fUrl fHi).1 (waysL (closestQ fW.u []) fW.u) 0 = ((wayF fW (putN Ns.none fUrl fHi).1 fUrl).1, [fetA], [lineF fUrl 0], 0) := by
    rw [fet_ways]
    exact fet_tried
  rw [fetch_tried fet_ask rfl, try_ways fet_ask hx]
theorem fet_line : lineF fUrl 0 = [104, 116, 116, 112, 58, 47, 47, 104, 47, 120, 32, 111, 107] := by decide
theorem fetA_lies (w : World) (T : TypeId) : LiesAt (w.alloc (.cells #[.string ⟨#[97]⟩, .bool false, .string ⟨#[104, 105]⟩] T)) (some ⟨w.heap.size, 0, none⟩) [fetA] := fun _ => by
  have e := heap_new w (.cells #[.string ⟨#[97]⟩, .bool false, .string ⟨#[104, 105]⟩] T)
  generalize w.alloc (.cells #[.string ⟨#[97]⟩, .bool false, .string ⟨#[104, 105]⟩] T) = V at e ⊢
  refine ⟨_, _, rfl, fun k hk => ?_⟩
  obtain rfl : k = 0 := by simp at hk; omega
  exact ⟨by simp [World.cell?, e], by simp [World.cell?, e], by simp [World.cell?, e]⟩
theorem line_texts (w : World) (x : List UInt8) : TextsAt (w.alloc (.cells #[sv x] 9)) (some ⟨w.heap.size, 0, none⟩) [x] := fun _ => ⟨w.heap.size, 0, rfl, fun k hk => by
  have h0 := heap_new w (.cells #[sv x] 9)
  generalize w.alloc (.cells #[sv x] 9) = V at h0 ⊢
  obtain rfl : k = 0 := by simp at hk; omega
  simp [World.cell?, h0]⟩

theorem fet_got {p : Nat → Addr} {NA : NetIs} {HA : HeldIs} (P : NetActs p NA) (P2 : HeldCore p HA) (nb hb : Nat) (S Sh Rh : Nat → Prop) (w0 w : World) (hI : InF NA HA w0 w nb hb S Sh Rh (putN Ns.none fUrl fHi).1 (Hs.none (mostH 3))) (hE : FEnv p w0) :
    Calls Tryz.prog 21 #[.pointer (some ⟨hb, 0, none⟩), .pointer (some ⟨nb, 0, none⟩), .slice none 0 0, .agg #[.string ⟨#[97]⟩, .string ⟨#[104, 116, 116, 112, 58, 47, 47, 104, 47, 120]⟩, .string ⟨#[112, 108, 97, 105, 110]⟩, .int .i64 0, .int .i64 (sumT [fetA])]] w fun e w' => (∃ a ca al cl, e = .returned (.tuple #[.slice a 1 ca, .slice al 1 cl, .nilIface]) ∧ LiesAt w' a [fetA] ∧ 1 ≤ ca ∧ TextsAt w' al [[104, 116, 116, 112, 58, 47, 47, 104, 47, 120, 32, 111, 107]]) ∧ Below w0.heap.size w0 w' := by
  have hc := fetchFetch_good P P2 nb hb S Sh Rh _ _ [] none 0 [97] fUrl kPlain 0 (sumT [fetA] : Int) w0 w hI hE fet_calls fet_texts ⟨fun r hr => by simp at hr, fun h => absurd rfl h⟩ ⟨by simp, fun r hr => by simp at hr, fun r hr => by simp at hr, fun r hr => by simp at hr⟩ (by decide) (by decide) fet_ask
  have hf : (fetchF (([] : List Ru).map Ru.q) ⟨[97], fUrl, kPlain, 0, (sumT [fetA] : Int)⟩ (Hs.none (mostH 3)) (putN Ns.none fUrl fHi).1).2.2 = ([fetA], [lineF fUrl 0], 0, -1) := fet_fetch
  generalize fetchF (([] : List Ru).map Ru.q) ⟨[97], fUrl, kPlain, 0, (sumT [fetA] : Int)⟩ (Hs.none (mostH 3)) (putN Ns.none fUrl fHi).1 = r at hc hf
  obtain ⟨r1, r2, r3⟩ := r
  simp only at hf
  subst hf
  refine hc.mono ?_
  rintro e w' ⟨a, ca, al, cl, S', Sh', Rh', he, q1, q2, q3, q4, q5, q6⟩
  obtain ⟨a2, c2, hv, ht, _, _⟩ := texts_of_owns q5
  cases hv
  exact ⟨⟨a, ca, al, cl, he, q1, q2, by rw [← fet_line]; exact ht⟩, q6.both.net.below⟩

set_option maxRecDepth 100000 in
set_option maxHeartbeats 4000000 in
theorem fetched_any {p : Nat → Addr} {NA : NetIs} {HA : HeldIs} (P : NetProg p NA) (P2 : HeldCore p HA) (w : World) (hE : FEnv p w) : Calls Tryz.prog 8 #[] w fun e w' => e = .returned (.bool true) ∧ Below w.heap.size w w' := by
  have HE := Lib.hid hE
  clear hE
  go_enter Tryz.func8, Tryz.ntmps8
  go_wp2_with fail
  refine (P.new _).mono ?_
  rintro e w1 ⟨nb, S1, rfl, hn1, hs1, hb1⟩
  have I1 : Hid (InN NA w w1 nb S1 Ns.none) := ⟨hb1, hn1, hs1⟩
  clear hn1 hs1 hb1
  go_wp2_with fail
  have hb2 : Below w1.heap.size w1 (w1.alloc (.cells #[.string ⟨#[97]⟩, .bool false, .string ⟨#[104, 105]⟩] 103)) := (Below.refl _ _).alloc (Nat.le_refl _) _
  have I2 := Lib.hid (I1.out.quiet P.acts hb2)
  refine (packSum_any p [fetA] (some ⟨w1.heap.size, 0, none⟩) 1 _ (HE.out.below I2.out.below).env (HE.out.below I2.out.below).sum (fetA_lies w1 _) (Nat.le_refl _) (tree_small (by rw [fet_tree]))).mono ?_
  rintro e w3 ⟨⟨v, rfl, hv⟩, hb3⟩
  rw [fet_tree] at hv
  obtain rfl := hv.isNil
  have I3 := Lib.hid (I2.out.quiet P.acts hb3)
  clear hv hb2 hb3 I1 I2
  go_wp2_with fail
  refine (P.put _ nb S1 Ns.none fUrl fHi I3.out.net (HE.out.below I3.out.below).net (by decide) (by decide) (by decide)).mono ?_
  rintro e w4 ⟨rfl, S4, l4⟩
  rw [fet_put, errV_zero]
  have I4 := Lib.hid (I3.out.step l4)
  clear l4 I3
  go_wp2_with fail
  refine (P2.new _ 3).mono ?_
  rintro e w5 ⟨hb, Sh, Rh, rfl, hh5, hs5, hb5⟩
  have I5 : Hid (InF NA HA w w5 nb hb S4 Sh Rh _ _) := InF.new P.acts I4.out hh5 hs5 hb5 (OkH.zero 3)
  clear hh5 hs5 hb5 I4
  go_wp2_with fail
  refine (fet_got P.acts P2 nb hb S4 Sh Rh w w5 I5.out HE.out).mono ?_
  rintro e w6 ⟨⟨a6, c6, al, cl, rfl, h6, hc6, ht6⟩, hb6⟩
  obtain ⟨b, o, rfl, k0, k1, k2⟩ := h6.at (k := 0) (by simp)
  have k2' : w6.cell? ⟨b, o + 2, none⟩ = some (.string ⟨#[104, 105]⟩) := by simpa using k2
  have HT6 := Lib.hid ht6
  have HB6 := Lib.hid hb6
  clear h6 ht6 hb6 k0 k1 k2 I5
  go_wp2_with fail
  have hb7 : Below w6.heap.size w6 (w6.alloc (.cells #[sv [104, 116, 116, 112, 58, 47, 47, 104, 47, 120, 32, 111, 107]] 9)) := (Below.refl _ _).alloc (Nat.le_refl _) _
  refine (sameTexts_at _ _ al (some ⟨w6.heap.size, 0, none⟩) cl 1 _ (HT6.out.below hb7) (line_texts w6 [104, 116, 116, 112, 58, 47, 47, 104, 47, 120, 32, 111, 107]) (by decide) (by decide)).mono ?_
  rintro e w7 ⟨rfl, hb8⟩
  have HB8 := Lib.hid ((HB6.out.trans (hb7.mono HB6.out.size)).trans (hb8.mono (Nat.le_trans HB6.out.size hb7.size)))
  rw [decide_eq_true rfl]
  clear hb7 hb8 k2'
  go_wp2
  go_ret
  exact ⟨rfl, HB8.out⟩
end Go.Proofs.YtmcfkoenpikldaaGreatDoor
/-
  Both nets, and both of what is held, each apart from the others: for the law FetchTells: over this seat's translation.
-/
namespace Go.Proofs.YtmcfkoenpikldaaGreatDoor
open Go.RowKit Go.Shelf

structure AllF (NA : NetIs) (HA : HeldIs) (w0 W : World) (nb hb : Nat) (S Sh Rh : Nat → Prop) (s : Ns) (h : Hs) (mb kb : Nat) (vL vO vH : Value) (sr : Ns) (most : Nat) (rs : List Rt) : Prop where
  prog : InF NA HA w0 W nb hb S Sh Rh s h
  ref : RefF W mb kb vL vO vH sr most rs
  mbase : w0.heap.size ≤ mb
  kbase : w0.heap.size ≤ kb
  sep : ∀ b, S b ∨ Sh b ∨ Rh b → b ≠ mb ∧ b ≠ kb ∧ vL.ownBlock ≠ some b ∧ vO.ownBlock ≠ some b ∧ vH.ownBlock ≠ some b
  sepF : ∀ r ∈ rs, r.l ≠ [] → ∀ b o t, r.a = some ⟨b, o, t⟩ → ¬ (S b ∨ Sh b)
section
variable {p : Nat → Addr} {NA : NetIs} {HA : HeldIs} {w0 w w1 : World} {nb hb mb kb most : Nat} {S Sh Rh S' Sh' Rh' : Nat → Prop} {s s' sr sr' : Ns} {h h' : Hs} {vL vO vH vL' vO' vH' : Value} {rs rs' : List Rt}
theorem AllF.prog_step (i : AllF NA HA w0 w nb hb S Sh Rh s h mb kb vL vO vH sr most rs) (l : FLeft NA HA w0 w nb hb S Sh Rh s' h' w1 S' Sh' Rh') : AllF NA HA w0 w1 nb hb S' Sh' Rh' s' h' mb kb vL vO vH sr most rs := by
  have hm := i.ref.net.lt
  have hk := i.ref.held.lt
  have hD : ∀ b, (S b ∨ Sh b) → S b ∨ Sh b ∨ Rh b := fun b e => e.elim .inl (fun e => .inr (.inl e))
  refine ⟨l.both, i.ref.kept l.kept (fun e => (i.sep mb (hD mb e)).1 rfl) (fun e => (i.sep kb (hD kb e)).2.1 rfl) (fun g e e2 => ?_) i.sepF, i.mbase, i.kbase, fun b hb' => ?_, fun r hr hl b o t e hS => ?_⟩
  · obtain ⟨_, _, h3, h4, h5⟩ := i.sep g (hD g e2)
    rcases e with e | e | e
    · exact h3 e
    · exact h4 e
    · exact h5 e
  · have hold : (S b ∨ Sh b ∨ Rh b) ∨ w.heap.size ≤ b := by
      rcases hb' with e | e | e
      · exact (l.own b e).imp .inl id
      · exact (l.ownH b e).imp (fun e => .inr (.inl e)) id
      · rcases l.ownR b e with e | e | e
        · exact .inl (.inr (.inl e))
        · exact .inl (.inr (.inr e))
        · exact .inr e
    rcases hold with e | e
    · exact i.sep b e
    · exact ⟨by omega, by omega, fun e2 => by have := i.ref.own_lt b (.inl e2); omega, fun e2 => by have := i.ref.own_lt b (.inr (.inl e2)); omega, fun e2 => by have := i.ref.own_lt b (.inr (.inr e2)); omega⟩
  · have hlt := i.ref.file_lt r hr hl b o t e
    have hf := i.sepF r hr hl b o t e
    rcases hS with e2 | e2
    · rcases l.own b e2 with e3 | e3
      · exact hf (.inl e3)
      · omega
    · rcases l.ownH b e2 with e3 | e3
      · exact hf (.inr e3)
      · omega
theorem AllF.ref_step (P : NetActs p NA) (P2 : HeldCore p HA) (i : AllF NA HA w0 w nb hb S Sh Rh s h mb kb vL vO vH sr most rs) (l : RefFLeft w mb kb vL vO vH rs sr' most rs' w1 vL' vO' vH') : AllF NA HA w0 w1 nb hb S Sh Rh s h mb kb vL' vO' vH' sr' most rs' := by
  have hm := i.ref.net.lt
  have hk := i.ref.held.lt
  have hT : ∀ b, (S b ∨ Sh b ∨ Rh b) → ¬ (b = mb ∨ b = kb ∨ vL.ownBlock = some b) := fun b e e2 => by
    obtain ⟨h1, h2, h3, _⟩ := i.sep b e
    rcases e2 with e2 | e2 | e2
    · exact h1 e2
    · exact h2 e2
    · exact h3 e2
  have hb0 : Below w0.heap.size w0 w1 := i.prog.net.below.trans (l.below _ i.mbase i.kbase)
  refine ⟨⟨⟨hb0, P.keep i.prog.net.net l.kept (fun b e => hT b (.inl e)), i.prog.net.base⟩, ⟨hb0, P2.keep i.prog.held.held l.kept (fun b e => hT b (.inr e)), i.prog.held.base, i.prog.held.ok⟩, i.prog.apart⟩, l.ref, i.mbase, i.kbase, fun b e => ?_, fun r hr hl b o t e e2 => ?_⟩
  rotate_left
  · rcases l.news r hr with h1 | h1
    · exact i.sepF r h1 hl b o t e e2
    · have h2 := h1 b o t e
      rcases e2 with e2 | e2
      · have := P.lt i.prog.net.net b e2; omega
      · have := P2.lt i.prog.held.held b (.inl e2); omega
  have hlt : b < w.heap.size := by
    rcases e with e | e
    · exact P.lt i.prog.net.net b e
    · exact P2.lt i.prog.held.held b e
  obtain ⟨h1, h2, h3, h4, h5⟩ := i.sep b e
  refine ⟨h1, h2, fun e2 => ?_, fun e2 => ?_, fun e2 => ?_⟩
  · exact (l.rowL b e2).elim h3 (fun e => by omega)
  · exact (l.rowO b e2).elim h4 (fun e => by omega)
  · exact (l.rowH b e2).elim h5 (fun e => by omega)
theorem AllF.quiet (P : NetActs p NA) (P2 : HeldCore p HA) (i : AllF NA HA w0 w nb hb S Sh Rh s h mb kb vL vO vH sr most rs) (hq : Below w.heap.size w w1) : AllF NA HA w0 w1 nb hb S Sh Rh s h mb kb vL vO vH sr most rs :=
  ⟨i.prog.quiet P P2 hq, i.ref.below hq, i.mbase, i.kbase, i.sep, i.sepF⟩
end
theorem bothStill {p : Nat → Addr} {HA : HeldIs} (P2 : HeldCore p HA) (hb : Nat) (Sh Rh : Nat → Prop) (h : Hs) (kb most : Nat) : Still (fun W => HA W hb Sh Rh h ∧ RefHAt W kb (.slice none 0 0) most []) (fun b => Sh b ∨ Rh b ∨ b = kb) :=
  ⟨fun h hb => by
    rcases hb with e | e | e
    · exact P2.lt h.1 _ (.inl e)
    · exact P2.lt h.1 _ (.inr e)
    · subst e
      exact h.2.lt, fun h hk hT => ⟨P2.keep h.1 hk fun b e => hT b (e.elim .inl (fun e => .inr (.inl e))), h.2.kept hk (hT _ (.inr (.inr rfl))) (fun g e => by simp [Value.ownBlock] at e)⟩⟩
/-- Nothing is held yet: the nets' acts, beside what holds. -/
theorem AllF.acts {NA : NetIs} {HA : HeldIs} {w0 w : World} {nb hb mb kb most : Nat} {S Sh Rh : Nat → Prop} {s : Ns} {h : Hs} {vL vO : Value} (i : AllF NA HA w0 w nb hb S Sh Rh s h mb kb vL vO (.slice none 0 0) s most []) :
    Both (WithQ NA (fun W => HA W hb Sh Rh h ∧ RefHAt W kb (.slice none 0 0) most []) (fun b => Sh b ∨ Rh b ∨ b = kb)) w0 w nb mb (fun b => S b ∨ (Sh b ∨ Rh b ∨ b = kb)) vL vO s s := by
  have hs : ∀ b, (S b ∨ (Sh b ∨ Rh b ∨ b = kb)) → (S b ∨ Sh b ∨ Rh b) ∨ b = kb := fun b e => by
    rcases e with e | e | e | e
    · exact .inl (.inl e)
    · exact .inl (.inr (.inl e))
    · exact .inl (.inr (.inr e))
    · exact .inr e
  refine ⟨i.prog.net.below, ⟨S, i.prog.net.net, ⟨i.prog.held.held, i.ref.held⟩, fun _ => Iff.rfl, fun b e e2 => ?_⟩, i.ref.net, fun b e => ?_, i.mbase, fun e => ?_, fun g e e2 => ?_, fun g e e2 => ?_⟩
  · rcases e2 with e2 | e2 | e2
    · exact i.prog.apart b e (.inl e2)
    · exact i.prog.apart b e (.inr e2)
    · exact (i.sep b (.inl e)).2.1 e2
  · rcases e with e | e | e | e
    · exact i.prog.net.base b e
    · exact i.prog.held.base b (.inl e)
    · exact i.prog.held.base b (.inr e)
    · subst e
      exact i.kbase
  · rcases hs _ e with e | e
    · exact (i.sep mb e).1 rfl
    · exact i.ref.ne e
  · rcases hs _ e2 with e2 | e2
    · exact (i.sep g e2).2.2.1 e
    · exact (i.ref.own g (.inl e)).1 e2
  · rcases hs _ e2 with e2 | e2
    · exact (i.sep g e2).2.2.2.1 e
    · exact (i.ref.own g (.inr e)).1 e2
theorem AllF.of_acts {NA : NetIs} {HA : HeldIs} {w0 w : World} {nb hb mb kb most : Nat} {S Sh Rh : Nat → Prop} {s : Ns} {h : Hs} {vL vO : Value} (ok : OkH h) (hne : mb ≠ kb) (hkb : w0.heap.size ≤ kb)
    (hs : ∀ b, Sh b ∨ Rh b → w0.heap.size ≤ b) (hk : ∀ b, Sh b ∨ Rh b → b ≠ kb)
    (i : Both (WithQ NA (fun W => HA W hb Sh Rh h ∧ RefHAt W kb (.slice none 0 0) most []) (fun b => Sh b ∨ Rh b ∨ b = kb)) w0 w nb mb S vL vO s s) : ∃ S0, AllF NA HA w0 w nb hb S0 Sh Rh s h mb kb vL vO (.slice none 0 0) s most [] := by
  obtain ⟨S0, h1, ⟨h2, h3⟩, h4, h5⟩ := i.prog
  have hin : ∀ b, S0 b ∨ Sh b ∨ Rh b → S b := fun b e => (h4 b).2 (e.imp id (fun e => e.imp id .inl))
  refine ⟨S0, ⟨⟨i.below, h1, fun b e => i.base b (hin b (.inl e))⟩, ⟨i.below, h2, hs, ok⟩, fun b e e2 => h5 b e (e2.imp id .inl)⟩, ⟨i.ref, h3, hne, fun g e => ⟨fun e2 => ?_, by simp [Value.ownBlock]⟩, fun g e => by simp [Value.ownBlock] at e, fun r hr => by simp at hr, fun r hr => by simp at hr⟩, i.mbase, hkb, fun b e => ⟨fun e2 => ?_, fun e2 => ?_, fun e2 => i.sepL b e2 (hin b e), fun e2 => i.sepO b e2 (hin b e), by simp [Value.ownBlock]⟩, fun r hr => by simp at hr⟩
  · subst e2
    rcases e with e | e
    · exact i.sepL g e ((h4 g).2 (.inr (.inr (.inr rfl))))
    · exact i.sepO g e ((h4 g).2 (.inr (.inr (.inr rfl))))
  · subst e2
    exact i.sepM (hin b e)
  · subst e2
    rcases e with e | e | e
    · exact h5 b e (.inr (.inr rfl))
    · exact hk b (.inl e) rfl
    · exact hk b (.inr e) rfl
end Go.Proofs.YtmcfkoenpikldaaGreatDoor
/-
  What the program, and the document's answer, tell of a call that fetches, both nets and both of what is held beside: over this seat's translation.
-/
namespace Go.Proofs.YtmcfkoenpikldaaGreatDoor
open Go.RowKit Go.Shelf

theorem waysF_most (x : Wt) : ∀ (r : List (List UInt8)) (s : Ns) (c : Nat), c ≤ 13 → (waysF x s r c).2.2.2 ≤ 13 ∧ (waysF x s r c).2.2.1.length ≤ r.length
  | [], s, c, h => ⟨h, Nat.le_refl _⟩
  | u :: r, s, c, _ => by
    have h := wayF_le x s u
    rw [waysF]
    split
    · exact ⟨by simp, by simp⟩
    · have ih := waysF_most x r (wayF x s u).1 (wayF x s u).2.2 h
      exact ⟨ih.1, by simp; exact ih.2⟩
theorem tryF_few {l : List Q} {x : Wt} {s : Ns} : (tryF l x s).2.1.length ≤ 100000 ∧ (tryF l x s).2.2.1.length ≤ 9 := by
  by_cases h : (askF l x).1 = 0
  · rw [try_ways h rfl]
    have h1 := waysF_good x (waysL (closestQ x.u l) x.u) s 0 (.inl (waysL_ne _ _))
    have h2 := waysF_most x (waysL (closestQ x.u l) x.u) s 0 (by omega)
    have h3 := ways_few (ask_zero h).1 x.u
    refine ⟨?_, by show (waysF x s (waysL (closestQ x.u l) x.u) 0).2.2.1.length ≤ 9; omega⟩
    by_cases h0 : (waysF x s (waysL (closestQ x.u l) x.u) 0).2.2.2 = 0
    · exact (tree_small (h1.1 h0).1).few
    · show (waysF x s (waysL (closestQ x.u l) x.u) 0).2.1.length ≤ 100000
      rw [h1.2 h0]
      simp
  · unfold tryF
    rw [if_pos h]
    simp
theorem try_same {l : List Q} {x : Wt} {s : Ns} : (tryF l x s).1.l = s.l ∧ (tryF l x s).1.off = s.off ∧ (tryF l x s).1.calls ≤ s.calls + 9 := by
  by_cases h : (askF l x).1 = 0
  · rw [try_ways h rfl]
    have h1 := ways_same x (waysL (closestQ x.u l) x.u) s 0
    have h2 := ways_few (ask_zero h).1 x.u
    exact ⟨h1.1, h1.2.1, by have := h1.2.2; show (waysF x s (waysL (closestQ x.u l) x.u) 0).1.calls ≤ s.calls + 9; omega⟩
  · unfold tryF
    rw [if_pos h]
    exact ⟨rfl, rfl, Nat.le_add_right _ _⟩
theorem fetchF_few {l : List Q} {x : Wt} {h : Hs} {s : Ns} (ok : OkH h) : (fetchF l x h s).2.2.1.length ≤ 100000 ∧ (fetchF l x h s).2.2.2.1.length ≤ 9 ∧ OkH (fetchF l x h s).1 ∧ (fetchF l x h s).1.most = h.most := by
  unfold fetchF
  split
  · exact ⟨by simp, by simp, ok, rfl⟩
  · split
    · rename_i k hk
      obtain ⟨h1, h2⟩ := spotH_some hk
      refine ⟨?_, by show heldF.length ≤ 9; decide, ok, rfl⟩
      have := (tree_small (ok.right _ (List.getElem_mem h1)).1).few
      simpa [h1] using this
    · refine ⟨tryF_few.1, tryF_few.2, ?_, ?_⟩
      · show OkH (if _ then _ else _)
        split
        · exact ok.put _
        · exact ok
      · show (if _ then _ else _ : Hs).most = _
        split
        · exact putH_most _ _
        · rfl

section
variable {p : Nat → Addr} {NA : NetIs} {HA : HeldIs} {w0 W : World} {nb hb mb kb most : Nat} {S Sh Rh : Nat → Prop} {s sr : Ns} {h : Hs} {vL vO vH : Value} {rs : List Rt}
/-- What the program tells. -/
def ProgAns (p : Nat → Addr) (NA : NetIs) (HA : HeldIs) (w0 W : World) (nb hb : Nat) (S Sh Rh : Nat → Prop) (mb kb : Nat) (vL vO vH : Value) (sr : Ns) (most : Nat) (rs : List Rt) (ok : Prop) (r : Hs × Ns × List F × List (List UInt8) × Nat × Int) (e : Ending) (w' : World) : Prop :=
  ∃ a ca al cl v S' Sh' Rh', e = .returned (.tuple #[.slice a r.2.2.1.length ca, .slice al r.2.2.2.1.length cl, v]) ∧ LiesAt w' a r.2.2.1 ∧ NewL W.heap.size a ca r.2.2.1 ∧ w'.ownsRow W.heap.size 9 1 (.slice al r.2.2.2.1.length cl) r.2.2.2.1.length (r.2.2.2.1.map sv) ∧
    ErrAt p w' v r.2.2.2.2.1 r.2.2.2.2.2 ∧ (ok → v = errV p r.2.2.2.2.1 ∧ r.2.2.2.2.1 ≤ 13 ∧ r.2.2.2.2.2 = -1) ∧ AllF NA HA w0 w' nb hb S' Sh' Rh' r.2.1 r.1 mb kb vL vO vH sr most rs ∧ Kept (fun b => S b ∨ Sh b) W w' ∧ ∀ b, S' b ∨ Sh' b ∨ Rh' b → (S b ∨ Sh b ∨ Rh b) ∨ W.heap.size ≤ b
/-- What the document's answer tells. -/
def RefAns (NA : NetIs) (HA : HeldIs) (w0 W : World) (nb hb : Nat) (S Sh Rh : Nat → Prop) (s : Ns) (h : Hs) (mb kb : Nat) (vL vO vH : Value) (rs : List Rt) (most : Nat) (ok : Prop) (r : Hs × Ns × List F × List (List UInt8) × Nat × Int) (e : Ending) (w' : World) : Prop :=
  ∃ a ca al cl vL' vO' vH' rs', e = .returned (.tuple #[.slice a r.2.2.1.length ca, .slice al r.2.2.2.1.length cl, .agg #[.int .i64 (r.2.2.2.2.1 : Nat), .int .i64 r.2.2.2.2.2]]) ∧ LiesAt w' a r.2.2.1 ∧ w'.ownsRow W.heap.size 9 1 (.slice al r.2.2.2.1.length cl) r.2.2.2.1.length (r.2.2.2.1.map sv) ∧
    AllF NA HA w0 w' nb hb S Sh Rh s h mb kb vL' vO' vH' r.2.1 most rs' ∧ rs'.map Rt.tr = r.1.l ∧ RefFLeft W mb kb vL vO vH rs r.2.1 most rs' w' vL' vO' vH' ∧ (¬ ok → Below W.heap.size W w') ∧ (r.2.2.1 ≠ [] → ∀ b o t, a = some ⟨b, o, t⟩ → (∃ x ∈ rs, x.l ≠ [] ∧ x.a = a) ∨ W.heap.size ≤ b)

theorem AllF.apart (i : AllF NA HA w0 W nb hb S Sh Rh s h mb kb vL vO vH sr most rs) : ∀ b, W.heap.size ≤ b → ¬ (b = mb ∨ b = kb ∨ vL.ownBlock = some b) := fun b hb' e => by
  have h1 := i.ref.net.lt
  have h2 := i.ref.held.lt
  rcases e with e | e | e
  · omega
  · omega
  · have := i.ref.own_lt b (.inl e)
    omega
/-- Files that a call gave, where others write. -/
theorem lies_apart {w w' : World} {D : Nat → Prop} {B c : Nat} {a : Option Addr} {l : List F} (h : LiesAt w a l) (hN : NewL B a c l) (k : Kept D w w') (hD : ∀ b, B ≤ b → ¬ D b) : LiesAt w' a l := lies_left h k fun hl b o t e => hD b (hN.new hl b o t e)
theorem row_apart {w w' : World} {D : Nat → Prop} {B n size : Nat} {T : TypeId} {v : Value} {xs : List Value} (h : w.ownsRow B T size v n xs) (k : Kept D w w') (hD : ∀ b, B ≤ b → ¬ D b) : w'.ownsRow B T size v n xs := owns_kept h fun g e => k.block g (h.lt g e).2 (hD g (h.lt g e).1)

theorem texts_row {w : World} {B cl : Nat} {al : Option Addr} {ls : List (List UInt8)} (h : w.ownsRow B 9 1 (.slice al ls.length cl) ls.length (ls.map sv)) : TextsAt w al ls := by
  obtain ⟨at2, ct2, hve, htt, _, _⟩ := texts_of_owns h
  simp only [Value.slice.injEq] at hve
  rw [hve.1]
  exact htt
theorem own_any {w0 W w' : World} {nb hb : Nat} {S Sh Rh S' Sh' Rh' : Nat → Prop} {s' : Ns} {h' : Hs} (l : FLeft NA HA w0 W nb hb S Sh Rh s' h' w' S' Sh' Rh') : ∀ b, S' b ∨ Sh' b ∨ Rh' b → (S b ∨ Sh b ∨ Rh b) ∨ W.heap.size ≤ b := fun b e => by
  rcases e with e | e | e
  · exact (l.own b e).imp .inl id
  · exact (l.ownH b e).imp (fun e => .inr (.inl e)) id
  · rcases l.ownR b e with e | e | e
    · exact .inl (.inr (.inl e))
    · exact .inl (.inr (.inr e))
    · exact .inr e
/-- A block that is neither side's. -/
structure Free (fb : Nat) (S Sh Rh : Nat → Prop) (mb kb : Nat) (vL vO vH : Value) (rs : List Rt) : Prop where
  prog : ¬ (S fb ∨ Sh fb ∨ Rh fb)
  mem : fb ≠ mb ∧ fb ≠ kb
  own : ¬ (vL.ownBlock = some fb ∨ vO.ownBlock = some fb ∨ vH.ownBlock = some fb)
  file : ∀ r ∈ rs, r.l ≠ [] → ∀ b o t, r.a = some ⟨b, o, t⟩ → b ≠ fb
theorem Free.new (P : NetActs p NA) (P2 : HeldCore p HA) (i : AllF NA HA w0 W nb hb S Sh Rh s h mb kb vL vO vH sr most rs) : Free W.heap.size S Sh Rh mb kb vL vO vH rs := by
  have h1 := i.ref.net.lt
  have h2 := i.ref.held.lt
  refine ⟨fun e => ?_, ⟨by omega, by omega⟩, fun e => by have := i.ref.own_lt _ e; omega, fun r hr hl b o t e e2 => by have := i.ref.file_lt r hr hl b o t e; omega⟩
  rcases e with e | e
  · have := P.lt i.prog.net.net _ e; omega
  · have := P2.lt i.prog.held.held _ e; omega
theorem Free.prog_step {fb : Nat} {S' Sh' Rh' : Nat → Prop} (f : Free fb S Sh Rh mb kb vL vO vH rs) (hl : fb < W.heap.size) (h : ∀ b, S' b ∨ Sh' b ∨ Rh' b → (S b ∨ Sh b ∨ Rh b) ∨ W.heap.size ≤ b) : Free fb S' Sh' Rh' mb kb vL vO vH rs :=
  ⟨fun e => (h fb e).elim f.prog (fun e => by omega), f.mem, f.own, f.file⟩
theorem Free.ref_step {fb : Nat} {w' : World} {vL' vO' vH' : Value} {sr' : Ns} {rs' : List Rt} (f : Free fb S Sh Rh mb kb vL vO vH rs) (hl : fb < W.heap.size) (l : RefFLeft W mb kb vL vO vH rs sr' most rs' w' vL' vO' vH') : Free fb S Sh Rh mb kb vL' vO' vH' rs' :=
  ⟨f.prog, f.mem, fun e => by
    rcases e with e | e | e
    · exact (l.rowL fb e).elim (fun e => f.own (.inl e)) (fun e => by omega)
    · exact (l.rowO fb e).elim (fun e => f.own (.inr (.inl e))) (fun e => by omega)
    · exact (l.rowH fb e).elim (fun e => f.own (.inr (.inr e))) (fun e => by omega), fun r hr hl' b o t e e2 => by
    rcases l.news r hr with h1 | h1
    · exact f.file r h1 hl' b o t e e2
    · have := h1 b o t e
      omega⟩
theorem Free.not_prog {fb : Nat} (f : Free fb S Sh Rh mb kb vL vO vH rs) : ¬ (S fb ∨ Sh fb) := fun e => f.prog (e.elim .inl (fun e => .inr (.inl e)))
theorem Free.not_ref {fb : Nat} (f : Free fb S Sh Rh mb kb vL vO vH rs) : ¬ (fb = mb ∨ fb = kb ∨ vL.ownBlock = some fb) := fun e => by
  rcases e with e | e | e
  · exact f.mem.1 e
  · exact f.mem.2 e
  · exact f.own (.inl e)
/-- A store into it. -/
theorem AllF.store {fb : Nat} (P : NetActs p NA) (P2 : HeldCore p HA) (i : AllF NA HA w0 W nb hb S Sh Rh s h mb kb vL vO vH sr most rs) (f : Free fb S Sh Rh mb kb vL vO vH rs) (hf : w0.heap.size ≤ fb) (x y : Value) : AllF NA HA w0 ((W.setCell ⟨fb, 0, none⟩ x).setCell ⟨fb, 1, none⟩ y) nb hb S Sh Rh s h mb kb vL vO vH sr most rs := by
  have hb0 : Below w0.heap.size w0 ((W.setCell ⟨fb, 0, none⟩ x).setCell ⟨fb, 1, none⟩ y) := below_store _ _ i.prog.net.below hf
  have hk : Kept (fun b => b = fb) W ((W.setCell ⟨fb, 0, none⟩ x).setCell ⟨fb, 1, none⟩ y) := ⟨(below_store (B := fb) x y (Below.refl fb W) (Nat.le_refl _)).size, fun g _ hn => heap_store _ _ hn⟩
  exact ⟨⟨⟨hb0, P.keep i.prog.net.net hk (fun b e e2 => by subst e2; exact f.prog (.inl e)), i.prog.net.base⟩, ⟨hb0, P2.keep i.prog.held.held hk (fun b e e2 => by subst e2; exact f.prog (.inr e)), i.prog.held.base, i.prog.held.ok⟩, i.prog.apart⟩,
    i.ref.kept hk (fun e => f.mem.1 e.symm) (fun e => f.mem.2 e.symm) (fun g e e2 => by subst e2; exact f.own e) f.file, i.mbase, i.kbase, i.sep, i.sepF⟩
theorem lies_free {fb : Nat} {w : World} {a : Option Addr} {l : List F} (x y : Value) (f : Free fb S Sh Rh mb kb vL vO vH rs) (hl : fb < W.heap.size) (h : LiesAt w a l) (hn : l ≠ [] → ∀ b o t, a = some ⟨b, o, t⟩ → (∃ x ∈ rs, x.l ≠ [] ∧ x.a = a) ∨ W.heap.size ≤ b) : LiesAt ((w.setCell ⟨fb, 0, none⟩ x).setCell ⟨fb, 1, none⟩ y) a l :=
  lies_left h (S := fun b => b = fb) ⟨(below_store (B := fb) x y (Below.refl fb w) (Nat.le_refl _)).size, fun _ _ hn => heap_store _ _ hn⟩ fun hl' b o t e e2 => by
    rcases hn hl' b o t e with ⟨r, h1, h2, h3⟩ | h1
    · exact f.file r h1 h2 b o t (h3.trans e) e2
    · omega
/-- What others write, where it is none of theirs. -/
theorem lies_store {W : World} {B c fb : Nat} {a : Option Addr} {l : List F} (x y : Value) (h : LiesAt W a l) (hN : NewL B a c l) (hf : fb < B) : LiesAt ((W.setCell ⟨fb, 0, none⟩ x).setCell ⟨fb, 1, none⟩ y) a l :=
  lies_apart h hN (D := fun b => b = fb) ⟨(below_store (B := fb) x y (Below.refl fb W) (Nat.le_refl _)).size, fun _ _ hn => heap_store _ _ hn⟩ (fun b hb e => by omega)
theorem err_store {w : World} {v : Value} {c fb : Nat} {z x1 y1 : Int} {T : TypeId} (x y : Value) (h : ErrAt p w v c z) (t : Two w fb (.int .i64 x1) (.int .i64 y1) T) : ErrAt p ((w.setCell ⟨fb, 0, none⟩ x).setCell ⟨fb, 1, none⟩ y) v c z := by
  rcases h with h | h | ⟨j, b, o, h0, h1, h2, h3, h4⟩
  · exact .inl h
  · exact .inr (.inl h)
  · have hne : b ≠ fb := fun e => by
      subst e
      rcases o with _ | o
      · have := t.cells.2.1
        rw [this] at h4
        cases h4
      · have ht := t
        unfold Two at ht
        simp [World.cell?, ht] at h4
    exact .inr (.inr ⟨j, b, o, h0, h1, h2, (World.cell?_of_block (a := ⟨b, o, none⟩) (heap_store x y hne)).trans h3, (World.cell?_of_block (a := ⟨b, o + 1, none⟩) (heap_store x y hne)).trans h4⟩)
theorem err_both {ok : Prop} {w w' : World} {v : Value} {c : Nat} {z : Int} (h : ErrAt p w v c z) (h1 : ok → v = errV p c ∧ c ≤ 13 ∧ z = -1) (h2 : ¬ ok → Below w.heap.size w w') : ErrAt p w' v c z := by
  by_cases ho : ok
  · obtain ⟨rfl, e2, rfl⟩ := h1 ho
    exact ErrAt.bare e2
  · exact h.below (h2 ho)
theorem progTry_any (P : NetActs p NA) (P2 : HeldCore p HA) (i : AllF NA HA w0 W nb hb S Sh Rh s h mb kb vL vO vH sr most rs) (hE : FEnv p w0) (l : List Ru) (a : Option Addr) (ca : Nat) (n u k : List UInt8) (g m : Int) (hc : s.calls ≤ 900) (ht : ∀ x ∈ s.l, x.t.length ≤ 90000) (hl : RulesAt W a l) (hs : RuSmall l) (hn : n.length ≤ 40000) (hu : u.length ≤ 20000) :
    Calls Tryz.prog 15 #[.pointer (some ⟨nb, 0, none⟩), .slice a l.length ca, wv ⟨n, u, k, g, m⟩] W fun e w' => ProgAns p NA HA w0 W nb hb S Sh Rh mb kb vL vO vH sr most rs ((askF (l.map Ru.q) ⟨n, u, k, g, m⟩).1 = 0) (h, tryF (l.map Ru.q) ⟨n, u, k, g, m⟩ s) e w' := by
  by_cases ha : (askF (l.map Ru.q) ⟨n, u, k, g, m⟩).1 = 0
  · rw [try_ways ha rfl]
    refine (fetchTry_good P nb S s l a ca n u k g m w0 W i.prog.net hE hc ht hl hs hn hu ha).mono ?_
    rintro e w' ⟨a, ca, al, cl, S', rfl, q1, _, q3, _, q5, q6⟩
    exact ⟨a, ca, al, cl, _, S', Sh, Rh, rfl, q1, q3, q5, ErrAt.bare (waysF_most _ _ _ _ (by omega)).1, fun _ => ⟨rfl, (waysF_most _ _ _ _ (by omega)).1, rfl⟩, i.prog_step (FLeft.of_net P2 i.prog q6), (FLeft.of_net P2 i.prog q6).kept, fun b e => e.elim (fun e => (q6.own b e).imp .inl id) (fun e => .inl (.inr e))⟩
  · refine (fetchTry_bad p nb l a ca n u k g m W (hE.below i.prog.net.below) hl hs hn hu ha).mono ?_
    rintro e w' ⟨⟨v, rfl, hv⟩, hb'⟩
    have e1 : tryF (l.map Ru.q) ⟨n, u, k, g, m⟩ s = (s, [], [], askF (l.map Ru.q) ⟨n, u, k, g, m⟩) := by unfold tryF; rw [if_pos ha]
    rw [e1]
    exact ⟨none, 0, none, 0, v, S, Sh, Rh, rfl, fun h => absurd rfl h, NewL.none _, World.ownsRow_nil _ _ _ _, hv, fun h => absurd h ha, i.quiet P P2 hb', Kept.of_below hb', fun _ e => .inl e⟩
theorem progFetch_any (P : NetActs p NA) (P2 : HeldCore p HA) (i : AllF NA HA w0 W nb hb S Sh Rh s h mb kb vL vO vH sr most rs) (hE : FEnv p w0) (l : List Ru) (a : Option Addr) (ca : Nat) (n u k : List UInt8) (g m : Int) (hc : s.calls ≤ 900) (ht : ∀ x ∈ s.l, x.t.length ≤ 90000) (hl : RulesAt W a l) (hs : RuSmall l) (hn : n.length ≤ 40000) (hu : u.length ≤ 20000) :
    Calls Tryz.prog 21 #[.pointer (some ⟨hb, 0, none⟩), .pointer (some ⟨nb, 0, none⟩), .slice a l.length ca, wv ⟨n, u, k, g, m⟩] W fun e w' => ProgAns p NA HA w0 W nb hb S Sh Rh mb kb vL vO vH sr most rs ((askF (l.map Ru.q) ⟨n, u, k, g, m⟩).1 = 0) (fetchF (l.map Ru.q) ⟨n, u, k, g, m⟩ h s) e w' := by
  by_cases ha : (askF (l.map Ru.q) ⟨n, u, k, g, m⟩).1 = 0
  · have hz : (fetchF (l.map Ru.q) ⟨n, u, k, g, m⟩ h s).2.2.2.2.1 ≤ 13 ∧ (fetchF (l.map Ru.q) ⟨n, u, k, g, m⟩ h s).2.2.2.2.2 = -1 := by
      unfold fetchF
      rw [if_neg (by rw [ha]; simp)]
      split
      · exact ⟨by simp, rfl⟩
      · rw [try_ways ha rfl]
        exact ⟨(waysF_most _ _ _ _ (by omega)).1, rfl⟩
    refine (fetchFetch_good P P2 nb hb S Sh Rh s h l a ca n u k g m w0 W i.prog hE hc ht hl hs hn hu ha).mono ?_
    rintro e w' ⟨a, ca, al, cl, S', Sh', Rh', rfl, q1, _, q3, _, q5, q6⟩
    exact ⟨a, ca, al, cl, _, S', Sh', Rh', rfl, q1, q3, q5, by rw [hz.2]; exact ErrAt.bare hz.1, fun _ => ⟨rfl, hz.1, hz.2⟩, i.prog_step q6, q6.kept, own_any q6⟩
  · refine (fetchFetch_bad p hb nb l a ca n u k g m W (hE.below i.prog.net.below) hl hs hn hu ha).mono ?_
    rintro e w' ⟨⟨v, rfl, hv⟩, hb'⟩
    have e1 : fetchF (l.map Ru.q) ⟨n, u, k, g, m⟩ h s = (h, s, [], [], askF (l.map Ru.q) ⟨n, u, k, g, m⟩) := by unfold fetchF; rw [if_pos ha]
    rw [e1]
    exact ⟨none, 0, none, 0, v, S, Sh, Rh, rfl, fun h => absurd rfl h, NewL.none _, World.ownsRow_nil _ _ _ _, hv, fun h => absurd h ha, i.quiet P P2 hb', Kept.of_below hb', fun _ e => .inl e⟩
theorem refTry_any (P : NetActs p NA) (P2 : HeldCore p HA) (i : AllF NA HA w0 W nb hb S Sh Rh s h mb kb vL vO vH sr most rs) (l : List Ru) (a : Option Addr) (ca : Nat) (n u k : List UInt8) (g m : Int) (hsl : sr.l.length ≤ 1000) (hso : sr.off.length ≤ 1000) (hc : sr.calls ≤ 900) (ht : ∀ x ∈ sr.l, x.t.length ≤ 90000) (hl : RulesAt W a l) (hs : RuSmall l) (hn : n.length ≤ 40000) (hu : u.length ≤ 20000) :
    Calls Tryz.prog 17 #[.pointer (some ⟨mb, 0, none⟩), .slice a l.length ca, wv ⟨n, u, k, g, m⟩] W fun e w' => RefAns NA HA w0 W nb hb S Sh Rh s h mb kb vL vO vH rs most ((askF (l.map Ru.q) ⟨n, u, k, g, m⟩).1 = 0) (⟨most, rs.map Rt.tr⟩, tryF (l.map Ru.q) ⟨n, u, k, g, m⟩ sr) e w' := by
  by_cases ha : (askF (l.map Ru.q) ⟨n, u, k, g, m⟩).1 = 0
  · refine (tryOf_good mb vL vO sr l a ca n u k g m W i.ref.net hsl hso hc ht hl hs hn hu ha).mono ?_
    rintro e w' ⟨v, al, cl, vL', vO', rfl, q1, q2, q3, _⟩
    have hlt := q1.lt
    obtain ⟨a3, c3, rfl, h3, _⟩ := owns_lies q1
    have hr := RefFLeft.of_net i.ref q3
    exact ⟨a3, c3, al, cl, vL', vO', vH, rs, rfl, h3, q2, i.ref_step P P2 hr, rfl, hr, fun h => absurd ha h, fun _ b o t e => .inr (hlt b (by rw [e]; rfl)).1⟩
  · refine (tryOf_bad mb l a ca n u k g m W hl hs hn hu ha).mono ?_
    rintro e w' ⟨rfl, hb'⟩
    have e1 : tryF (l.map Ru.q) ⟨n, u, k, g, m⟩ sr = (sr, [], [], askF (l.map Ru.q) ⟨n, u, k, g, m⟩) := by unfold tryF; rw [if_pos ha]
    rw [e1]
    exact ⟨none, 0, none, 0, vL, vO, vH, rs, rfl, fun h => absurd rfl h, World.ownsRow_nil _ _ _ _, i.quiet P P2 hb', rfl, RefFLeft.of_below i.ref hb', fun _ => hb', fun h => absurd rfl h⟩
theorem refFetch_any (P : NetActs p NA) (P2 : HeldCore p HA) (i : AllF NA HA w0 W nb hb S Sh Rh s h mb kb vL vO vH sr most rs) (l : List Ru) (a : Option Addr) (ca : Nat) (n u k : List UInt8) (g m : Int) (hrl : rs.length ≤ 1000) (hsl : sr.l.length ≤ 1000) (hso : sr.off.length ≤ 1000) (hc : sr.calls ≤ 900) (ht : ∀ x ∈ sr.l, x.t.length ≤ 90000) (hl : RulesAt W a l) (hs : RuSmall l) (hn : n.length ≤ 40000) (hu : u.length ≤ 20000) :
    Calls Tryz.prog 22 #[.pointer (some ⟨kb, 0, none⟩), .pointer (some ⟨mb, 0, none⟩), .slice a l.length ca, wv ⟨n, u, k, g, m⟩] W fun e w' => RefAns NA HA w0 W nb hb S Sh Rh s h mb kb vL vO vH rs most ((askF (l.map Ru.q) ⟨n, u, k, g, m⟩).1 = 0) (fetchF (l.map Ru.q) ⟨n, u, k, g, m⟩ ⟨most, rs.map Rt.tr⟩ sr) e w' := by
  by_cases ha : (askF (l.map Ru.q) ⟨n, u, k, g, m⟩).1 = 0
  · refine (fetchOf_good kb mb vL vO vH sr most rs l a ca n u k g m W i.ref hrl hsl hso hc ht hl hs hn hu ha).mono ?_
    rintro e w' ⟨a, ca, al, cl, vL', vO', vH', rs', rfl, q1, qn, q2, q3, q4⟩
    exact ⟨a, ca, al, cl, vL', vO', vH', rs', rfl, q1, q2, i.ref_step P P2 q3, q4, q3, fun h => absurd ha h, qn⟩
  · refine (fetchOf_bad kb mb l a ca n u k g m W hl hs hn hu ha).mono ?_
    rintro e w' ⟨rfl, hb'⟩
    have e1 : fetchF (l.map Ru.q) ⟨n, u, k, g, m⟩ ⟨most, rs.map Rt.tr⟩ sr = (⟨most, rs.map Rt.tr⟩, sr, [], [], askF (l.map Ru.q) ⟨n, u, k, g, m⟩) := by unfold fetchF; rw [if_pos ha]
    rw [e1]
    exact ⟨none, 0, none, 0, vL, vO, vH, rs, rfl, fun h => absurd rfl h, World.ownsRow_nil _ _ _ _, i.quiet P P2 hb', rfl, RefFLeft.of_below i.ref hb', fun _ => hb', fun h => absurd rfl h⟩
end
end Go.Proofs.YtmcfkoenpikldaaGreatDoor
/-
  Package fetch: Try, Fetch, where there is no net, or nothing that holds: contracts, over this seat's translation.
-/
namespace Go.Proofs.YtmcfkoenpikldaaGreatDoor
open Go.RowKit Go.Shelf

/-- No net, or nothing that holds. -/
def NilF (p : Nat → Addr) (w : World) (e : Ending) (w' : World) : Prop := e = .returned (.tuple #[.slice none 0 0, .slice none 0 0, errV p 3]) ∧ Below w.heap.size w w'

set_option maxRecDepth 100000 in
theorem fetchCheck_nil (p : Nat → Addr) (x : Value) (n u k : List UInt8) (g m : Int) (w : World) (hE : FEnv p w) :
    Calls Tryz.prog 67 #[.pointer none, x, wv ⟨n, u, k, g, m⟩] w fun e w' => e = .returned (errV p 3) ∧ Below w.heap.size w w' := by
  have hb0 : Below w.heap.size w (w.alloc (wo n u k g m)) := (Below.refl _ _).alloc (Nat.le_refl _) _
  have z := (hE.below hb0).env.s2
  clear hE
  go_enter Tryz.func67, Tryz.ntmps67
  go_wp2
  go_ret
  exact ⟨rfl, hb0⟩
set_option maxRecDepth 100000 in
theorem fetchTry_nil (p : Nat → Addr) (x : Value) (n u k : List UInt8) (g m : Int) (w : World) (hE : FEnv p w) :
    Calls Tryz.prog 15 #[.pointer none, x, wv ⟨n, u, k, g, m⟩] w fun e w' => NilF p w e w' := by
  have hb0 : Below w.heap.size w (w.alloc (wo n u k g m)) := (Below.refl _ _).alloc (Nat.le_refl _) _
  have HC := Lib.hid (fetchCheck_nil p x n u k g m _ (hE.below hb0))
  have HB0 := Lib.hid hb0
  obtain ⟨c0, c1, c2, c3, c4⟩ := WantAt.new w n u k g m
  clear hE hb0
  go_enter Tryz.func15, Tryz.ntmps15
  go_wp2_with fail
  refine HC.out.mono ?_
  rintro e w1 ⟨rfl, hb1⟩
  have HB1 := Lib.hid (HB0.out.trans (hb1.mono HB0.out.size))
  rw [errV_some p (by decide : (3 : Nat) ≠ 0)]
  clear hb1 c0 c1 c2 c3 c4
  go_wp2
  go_ret3
  exact ⟨by rw [errV_some p (by decide : (3 : Nat) ≠ 0)]; rfl, HB1.out⟩
set_option maxRecDepth 100000 in
theorem fetchFetch_nil (p : Nat → Addr) (v x : Value) (n u k : List UInt8) (g m : Int) (w : World) (hE : FEnv p w) :
    Calls Tryz.prog 21 #[.pointer none, v, x, wv ⟨n, u, k, g, m⟩] w fun e w' => NilF p w e w' := by
  have hb0 : Below w.heap.size w (w.alloc (wo n u k g m)) := (Below.refl _ _).alloc (Nat.le_refl _) _
  have z := (hE.below hb0).env.s2
  have HB0 := Lib.hid hb0
  clear hE hb0
  go_enter Tryz.func21, Tryz.ntmps21
  go_upto_region 2 with fail
  go_region
  all_goals
    go_wp2
    go_ret3
    exact ⟨by rw [errV_some p (by decide : (3 : Nat) ≠ 0)]; rfl, HB0.out.drew⟩
set_option maxRecDepth 100000 in
theorem fetchFetch_none (p : Nat → Addr) (hb : Nat) (x : Value) (n u k : List UInt8) (g m : Int) (w : World) (hE : FEnv p w) :
    Calls Tryz.prog 21 #[.pointer (some ⟨hb, 0, none⟩), .pointer none, x, wv ⟨n, u, k, g, m⟩] w fun e w' => NilF p w e w' := by
  have hb0 : Below w.heap.size w (w.alloc (wo n u k g m)) := (Below.refl _ _).alloc (Nat.le_refl _) _
  have HC := Lib.hid (fetchCheck_nil p x n u k g m _ (hE.below hb0))
  have HB0 := Lib.hid hb0
  obtain ⟨c0, c1, c2, c3, c4⟩ := WantAt.new w n u k g m
  clear hE hb0
  go_enter Tryz.func21, Tryz.ntmps21
  go_wp2_with fail
  refine HC.out.mono ?_
  rintro e w1 ⟨rfl, hb1⟩
  have HB1 := Lib.hid (HB0.out.trans (hb1.mono HB0.out.size))
  rw [errV_some p (by decide : (3 : Nat) ≠ 0)]
  clear hb1 c0 c1 c2 c3 c4
  go_wp2
  go_ret3
  exact ⟨by rw [errV_some p (by decide : (3 : Nat) ≠ 0)]; rfl, HB1.out⟩
end Go.Proofs.YtmcfkoenpikldaaGreatDoor
/-
  The document's answer's SameTrees: over this seat's translation.
-/
namespace Go.Proofs.YtmcfkoenpikldaaGreatDoor
open Go.RowKit Go.Shelf

set_option maxHeartbeats 1000000 in
open Classical in
theorem sameTrees_any (l m : List F) (a b : Option Addr) (ca cb : Nat) (w : World) (hl : LiesAt w a l) (hm : LiesAt w b m) (hll : l.length ≤ 100000) (hml : m.length ≤ 100000) :
    Calls Tryz.prog 19 #[.slice a l.length ca, .slice b m.length cb] w fun e w' => e = .returned (.bool (decide (l = m))) ∧ Below w.heap.size w w' := by
  by_cases hlen : l.length = m.length
  · have HL : Hid (LiesAt w a l) := hl
    have HM : Hid (LiesAt w b m) := hm
    clear hl hm
    have HLEN : Hid (l.length = m.length) := hlen
    rw [← hlen]
    clear hlen
    go_enter Tryz.func19, Tryz.ntmps19
    go_wp2_with fail
    go_loopw [5] (fun i wr => ∃ q : Nat, q ≤ l.length ∧ i = .int .i64 q ∧ l.take q = m.take q ∧ Below w.heap.size w wr) (fun i _ => l.length - (intOf i).toNat)
    case atStart => exact ⟨0, by omega, rfl, by simp, Below.refl _ _⟩
    case round =>
      obtain ⟨q, hq, rfl, ht, hb⟩ := hrel
      have HB : Hid (Below w.heap.size w wr) := hb
      have HT : Hid (l.take q = m.take q) := ht
      clear hb ht
      by_cases hlt : q < l.length
      · have hlt2 : q < m.length := HLEN.out ▸ hlt
        obtain ⟨b1, o1, rfl, c0, c1, c2⟩ := (HL.out.below HB.out).at hlt
        obtain ⟨b2, o2, rfl, d0, d1, d2⟩ := (HM.out.below HB.out).at hlt2
        have hlt' : (q : Int) < (l.length : Int) := by omega
        by_cases he : l[q] = m[q]
        · have hne := file_neq l[q] m[q] true (by simp [he])
          have hg := fun op x y w => run_eqGuard_agg (P := Tryz.prog) w op 103 x y #[sv l[q].p, .bool l[q].r, sv l[q].t] #[sv m[q].p, .bool m[q].r, sv m[q].t] Tryz.guardFile
          have HN : Hid (l.take (q + 1) = m.take (q + 1)) := by
            show l.take (q + 1) = m.take (q + 1)
            rw [List.take_succ_eq_append_getElem hlt, List.take_succ_eq_append_getElem hlt2, HT.out, he]
          clear he
          generalize l[q] = x at hne c0 c1 c2 hg
          generalize m[q] = y at hne d0 d1 d2 hg
          go_wp2_with fail
          go_quiet (fail)
          go_wp2
          go_roundw
          case rel => exact ⟨q + 1, by omega, by go_num, HN.out, below_drewN HB.out _⟩
          case measure => simp [intOf]; omega
        · have hne := file_neq l[q] m[q] false (by simp [he])
          have hg := fun op x y w => run_eqGuard_agg (P := Tryz.prog) w op 103 x y #[sv l[q].p, .bool l[q].r, sv l[q].t] #[sv m[q].p, .bool m[q].r, sv m[q].t] Tryz.guardFile
          have HN : Hid (decide (l = m) = false) := by
            show decide (l = m) = false
            rw [decide_eq_false_iff_not]
            intro e
            subst e
            exact he rfl
          clear he
          generalize l[q] = x at hne c0 c1 c2 hg
          generalize m[q] = y at hne d0 d1 d2 hg
          go_wp2_with fail
          go_quiet (fail)
          go_wp2
          go_ret
          exact ⟨ret_bool HN.out.symm, below_drewN HB.out _⟩
      · have hql : q = l.length := by omega
        have HN : Hid (decide (l = m) = true) := by
          show decide (l = m) = true
          rw [decide_eq_true_iff]
          have := HT.out
          rw [hql, List.take_length, HLEN.out, List.take_length] at this
          exact this
        clear hql
        go_wp2
        go_ret
        exact ⟨ret_bool HN.out.symm, HB.out⟩
  · have HN : Hid (decide (l = m) = false) := by
      show decide (l = m) = false
      rw [decide_eq_false_iff_not]
      intro e
      exact hlen (by rw [e])
    have hlen' : ((l.length : Int) == (m.length : Int)) = false := by simp; omega
    clear hl hm
    go_enter Tryz.func19, Tryz.ntmps19
    go_wp2
    go_ret
    exact ⟨ret_bool HN.out.symm, Below.refl _ _⟩
end Go.Proofs.YtmcfkoenpikldaaGreatDoor
/-
  The law package's OwnRules: rules in memory of their own: over this seat's translation.
-/
namespace Go.Proofs.YtmcfkoenpikldaaGreatDoor
open Go.RowKit Go.Shelf

/-- Rules in memory of a call's own, and their texts too. -/
structure OwnedRules (base : Nat) (w : World) (v : Value) (l : List Ru) : Prop where
  row : w.ownsRow base 126 2 v l.length (rlcells l)
  texts : ∀ r ∈ l, w.ownsRow base 9 1 (.slice r.a r.t.length r.c) r.t.length (r.t.map sv)
theorem OwnedRules.below {base : Nat} {w w' : World} {v : Value} {l : List Ru} (h : OwnedRules base w v l) (hb : Below w.heap.size w w') : OwnedRules base w' v l := ⟨row_below h.row hb, fun r hr => row_below (h.texts r hr) hb⟩
theorem owned_lies {base : Nat} {w : World} {r : Ru} (h : w.ownsRow base 9 1 (.slice r.a r.t.length r.c) r.t.length (r.t.map sv)) : r.Lies w := by
  obtain ⟨a, cap, hv, h1, h2, h3⟩ := texts_of_owns h
  obtain ⟨f, t, ra, rc⟩ := r
  simp only at hv h1 h2 h3
  cases hv
  exact ⟨h1, h2, h3⟩
theorem OwnedRules.rules {base : Nat} {w : World} {v : Value} {l : List Ru} (h : OwnedRules base w v l) : ∃ a cap, v = .slice a l.length cap ∧ RulesAt w a l ∧ l.length ≤ cap ∧ (a = none → cap = 0 ∧ l = []) :=
  rules_of_owns h.row fun r hr => owned_lies (h.texts r hr)
theorem small_of_q {l m : List Ru} (e : m.map Ru.q = l.map Ru.q) (h : RuSmall l) : RuSmall m := by
  have hm : ∀ r ∈ m, ∃ x ∈ l, x.q = r.q := fun r hr => by
    have : r.q ∈ l.map Ru.q := by rw [← e]; exact List.mem_map_of_mem hr
    obtain ⟨x, hx, ex⟩ := List.mem_map.1 this
    exact ⟨x, hx, ex⟩
  have hlen : m.length = l.length := by simpa using congrArg List.length e
  refine ⟨by rw [hlen]; exact h.few, fun r hr => ?_, fun r hr => ?_, fun r hr => ?_⟩
  · obtain ⟨x, hx, ex⟩ := hm r hr
    have e1 : x.f = r.f := congrArg Prod.fst ex
    rw [← e1]; exact h.begin x hx
  · obtain ⟨x, hx, ex⟩ := hm r hr
    have e1 : x.t = r.t := congrArg Prod.snd ex
    rw [← e1]; exact h.many x hx
  · obtain ⟨x, hx, ex⟩ := hm r hr
    have e1 : x.t = r.t := congrArg Prod.snd ex
    rw [← e1]; exact h.texts x hx

/-- What lies in a block of another kind is kept when a row grows. -/
theorem row_other {w w1 w2 : World} {n n' size size' k k' : Nat} {e e' : TypeId} {v v' : Value} {xs xs' : List Value} (hrow : w.ownsRow n e size v k xs) (htx : w.ownsRow n' e' size' v' k' xs') (hne : e ≠ e')
    (hk : ∀ g, g < w.heap.size → w1.heap[g]? = w.heap[g]?) (hs : w.heap.size ≤ w1.heap.size) (hg : w1.grownBy w2 v.ownBlock) : w2.ownsRow n' e' size' v' k' xs' := by
  refine ⟨htx.1, ?_⟩
  rcases htx.2 with h0 | ⟨g, cap, cur, hv, hgb, hh, h1, h2, h3, h4⟩
  · exact .inl h0
  · refine .inr ⟨g, cap, cur, hv, hgb, ?_, h1, h2, h3, h4⟩
    have hlt := (Array.getElem?_eq_some_iff.1 hh).1
    have hno : some g ≠ v.ownBlock := by
      intro hb
      rcases hrow.2 with ⟨rfl, _⟩ | ⟨g', cap', cur', rfl, _, hh', _⟩
      · cases hb
      · have : g = g' := Option.some.inj hb
        subst this
        rw [hh] at hh'
        exact hne (by cases hh'; rfl)
    rw [hg.block g (by omega) hno, hk g hlt]
    exact hh
theorem rule_new (w : World) (r : Ru) (T : TypeId) : ∀ j u, (rucells r)[j]? = some u → (w.alloc (.cells #[sv r.f, .slice r.a r.t.length r.c] T)).cell? ((⟨w.heap.size, 0, none⟩ : Addr).add j) = some u := by
  intro j u h
  have hn := heap_new w (.cells #[sv r.f, .slice r.a r.t.length r.c] T)
  rw [Addr.add_lit]
  simp only [World.cell?, hn, Nat.zero_add]
  rcases j with _ | _ | j
  · exact h
  · exact h
  · simp [rucells] at h
theorem Two.set1 {w : World} {b : Nat} {x y : Value} {T : TypeId} (h : Two w b x y T) (y' : Value) : Two (w.setCell ⟨b, 1, none⟩ y') b x y' T := by
  unfold Two at h ⊢
  simp only [World.setCell, Array.getElem?_modify, if_true, h, Option.map_some]
  rfl
theorem heap_set1 {w : World} {b g : Nat} (y : Value) (h : g ≠ b) : (w.setCell ⟨b, 1, none⟩ y).heap[g]? = w.heap[g]? := Below.heap_setCell _ _ _ _ (by show g ≠ b; exact h)

/-- Behind the copy of a rule: what is kept. -/
theorem kept_row {wr W2 : World} {m n : Nat} {e : TypeId} {size : Nat} {v : Value} {k : Nat} {xs : List Value} {o : Obj} {y : Value} (h : wr.ownsRow n e size v k xs) (hm : m = wr.heap.size) (hg : (wr.alloc o).grownBy W2 none) : (W2.setCell ⟨m, 1, none⟩ y).ownsRow n e size v k xs :=
  row_keep h fun g _ hlt => by
    rw [heap_set1 _ (by omega), hg.block g (by simp; omega) (by simp), Below.heap_alloc _ _ _ hlt]

set_option maxRecDepth 100000 in
set_option maxHeartbeats 8000000 in
theorem ownRules_any (l : List Ru) (a : Option Addr) (ca : Nat) (w : World) (hl : RulesAt w a l) (hs : RuSmall l) :
    Calls Tryz.prog 16 #[.slice a l.length ca] w fun e w' => (∃ v m, e = .returned v ∧ m.map Ru.q = l.map Ru.q ∧ OwnedRules w.heap.size w' v m) ∧ Below w.heap.size w w' := by
  obtain ⟨i0, hi, hz0, hz1, hz2⟩ := info_parts Tryz.info9
  obtain ⟨j0, hj, hy0, hy1, hy2⟩ := info_parts Tryz.infoRule
  have hfew := hs.few
  have HL := Lib.hid hl
  have HS := Lib.hid hs
  clear hl hs
  go_enter Tryz.func16, Tryz.ntmps16
  go_wp2_with fail
  go_loopw [3, 4] (fun v i wr => ∃ (q : Nat) (m : List Ru), q ≤ l.length ∧ i = .int .i64 q ∧ m.map Ru.q = (l.take q).map Ru.q ∧ m.length = q ∧ OwnedRules w.heap.size wr v m ∧ Below w.heap.size w wr) (fun _ i _ => l.length - (intOf i).toNat)
  case atStart => exact ⟨0, [], by omega, rfl, by simp, rfl, ⟨World.ownsRow_nil _ _ _ _, fun r hr => by simp at hr⟩, Below.refl _ _⟩
  case round =>
    obtain ⟨q, m, hq, rfl, hmq, hml, hown, hb⟩ := hrel
    have HB := Lib.hid hb
    have HMQ := Lib.hid hmq
    have HML := Lib.hid hml
    have HOW := Lib.hid hown
    have hbs := hb.size
    have hrow := hown.row
    clear hb hmq hown
    by_cases hlt : q < l.length
    · have hlt' : (q : Int) < (l.length : Int) := by omega
      have hlw := HL.out.below HB.out
      have hrl := hlw.each _ (List.getElem_mem hlt)
      obtain ⟨b, o, rfl, c0, c1⟩ := hlw.at hlt
      have hnl := HS.out.many _ (List.getElem_mem hlt)
      have HNX : Hid (∀ x : Ru, x.q = l[q].q → (m ++ [x]).map Ru.q = (l.take (q + 1)).map Ru.q) := by
        intro x hx
        rw [List.take_succ_eq_append_getElem hlt, List.map_append, List.map_append, HMQ.out]
        simp [hx]
      clear hlw
      generalize l[q] = r at c0 c1 hnl hrl HNX
      obtain ⟨f, t, ta, tc⟩ := r
      simp only at c0 c1 hnl
      have HT := Lib.hid hrl.texts
      have hnil := hrl.nil
      simp only at hnil HT
      clear hrl
      cases ta with
      | none =>
        obtain ⟨rfl, rfl⟩ := hnil rfl
        clear hnil
        have hTN := Two.new wr (.string ⟨f.toArray⟩) (.slice none 0 0) 126
        have HK := Lib.hid (hrow.alloc (.cells #[.string ⟨f.toArray⟩, .slice none 0 0] 126))
        have HKT := Lib.hid (fun x (hx : x ∈ m) => (HOW.out.texts x hx).alloc (.cells #[.string ⟨f.toArray⟩, .slice none 0 0] 126))
        have HKN : Hid ((wr.alloc (.cells #[.string ⟨f.toArray⟩, .slice none 0 0] 126)).ownsRow w.heap.size 9 1 (.slice none 0 0) 0 ([].map sv)) := World.ownsRow_nil _ _ _ _
        have HB3 : Hid (Below w.heap.size w (wr.alloc (.cells #[.string ⟨f.toArray⟩, .slice none 0 0] 126))) := HB.out.alloc hbs _
        obtain ⟨x0, x1, x2, x3⟩ := hTN.cells
        clear hTN
        simp only [List.length_nil] at c1
        go_wp2_with (first | (at_builtin; refine wpList_append_own_none _ rfl _ _ 35 rfl (wr.heap.size + 1) 9 i0 1 Tryz.underlying35 hi (.slice none 0 0) 0 [] rfl (World.ownsRow_nil _ _ _ _) rfl ?_) | (at_builtin; refine wpList_append_own _ rfl _ _ 23 rfl w.heap.size 126 j0 (.agg #[.string ⟨#[]⟩, .slice none 0 0]) 2 40 Tryz.underlying23 hj hy0 hy1 hy2 rfl (by decide) _ _ _ rfl (HK.out.alloc _) ⟨wr.heap.size + 1, 0, none⟩ 1 1 (rucells (⟨f, [], none, 0⟩ : Ru)) rfl rfl (fun j u hu => by simpa using rule_new (wr.alloc (.cells #[.string ⟨f.toArray⟩, .slice none 0 0] 126)) (⟨f, [], none, 0⟩ : Ru) 126 j u hu) (by simp [rucells, Value.oneCell']) (by unfold maxLen; omega) (by omega) (by simp; omega) ?_; intro v2 W4 hown2 hgrow2 _))
        have hk3 : ∀ (o : Obj) g, g < (wr.alloc (.cells #[.string ⟨f.toArray⟩, .slice none 0 0] 126)).heap.size → ((wr.alloc (.cells #[.string ⟨f.toArray⟩, .slice none 0 0] 126)).alloc o).heap[g]? = (wr.alloc (.cells #[.string ⟨f.toArray⟩, .slice none 0 0] 126)).heap[g]? := fun o g hg => Below.heap_alloc _ _ _ hg
        go_roundw
        case rel =>
          refine ⟨q + 1, m ++ [(⟨f, [], none, 0⟩ : Ru)], by omega, by go_num, HNX.out _ rfl, by simp; omega, ⟨?_, ?_⟩, ?_⟩
          · rw [List.length_append, rlcells_app]
            simpa [rlcells] using hown2
          · intro x hx
            rcases List.mem_append.1 hx with hx | hx
            · exact row_other HK.out (HKT.out x hx) (by decide) (hk3 _) (by simp) hgrow2
            · obtain rfl := List.mem_singleton.1 hx
              exact row_other HK.out HKN.out (by decide) (hk3 _) (by simp) hgrow2
          · exact (HB3.out.alloc HB3.out.size _).grown hgrow2 (by have := HB3.out.size; simp at this ⊢; omega) (fun k e => (HK.out.lt k e).1)
        case measure => simp [intOf]; omega
      | some ad =>
        clear hnil
        have HNEWS := Lib.hid (HT.out.below ((Below.refl _ _).alloc (Nat.le_refl _) (.cells #[.string ⟨f.toArray⟩, .slice (some ad) t.length tc] 126))).news
        go_wp2_with (first | (at_builtin; refine wpList_append_own _ rfl _ _ 35 rfl (wr.heap.size + 1) 9 i0 (.string ⟨#[]⟩) 1 16 Tryz.underlying35 hi hz0 hz1 hz2 rfl (by decide) (.slice none 0 0) 0 [] rfl (World.ownsRow_nil _ _ _ _) ad t.length tc (t.map sv) rfl (by simp) HNEWS.out (texts_one t) (by unfold maxLen; omega) (by omega) (by simp) ?_; intro v' W2 hown' hgrow' _; obtain ⟨a', c', e'⟩ : ∃ a' c', v' = .slice a' t.length c' := (by obtain ⟨a', c', h⟩ := ownsRow_slice hown'; exact ⟨a', c', by rw [h, Nat.zero_add]⟩); subst e'; have hTN : Two W2 wr.heap.size (.string ⟨f.toArray⟩) (.slice (some ad) t.length tc) 126 := (Two.new wr _ _ _).keep (hgrow'.block _ (by simp) (by simp [Value.ownBlock])); have HK := Lib.hid (kept_row (m := wr.heap.size) (y := .slice a' t.length c') hrow rfl hgrow'); have HKT := Lib.hid (fun x (hx : x ∈ m) => kept_row (m := wr.heap.size) (y := .slice a' t.length c') (HOW.out.texts x hx) rfl hgrow'); have HKN : Hid ((W2.setCell ⟨wr.heap.size, 1, none⟩ (.slice a' t.length c')).ownsRow w.heap.size 9 1 (.slice a' t.length c') t.length (t.map sv)) := (by have h1 : W2.ownsRow (wr.heap.size + 1) 9 1 (.slice a' t.length c') t.length (t.map sv) := (by simpa using hown'); exact (row_keep (w' := (W2.setCell ⟨wr.heap.size, 1, none⟩ (.slice a' t.length c'))) h1 (fun g hg _ => heap_set1 _ (by omega))).mono (by omega)); have HB3 : Hid (Below w.heap.size w (W2.setCell ⟨wr.heap.size, 1, none⟩ (.slice a' t.length c'))) := ((HB.out.alloc hbs _).grown hgrow' (by simp; omega) (fun k e => by cases e)).setCell (p := ⟨wr.heap.size, 1, none⟩) hbs _; obtain ⟨y0, y1, _, _⟩ := (hTN.set1 (.slice a' t.length c')).cells; obtain ⟨x0, x1, x2, x3⟩ := hTN.cells; have hs2 : wr.heap.size + 1 ≤ W2.heap.size := (by simpa using hgrow'.size); clear hTN hown' hgrow') | (at_builtin; refine wpList_append_own _ rfl _ _ 23 rfl w.heap.size 126 j0 (.agg #[.string ⟨#[]⟩, .slice none 0 0]) 2 40 Tryz.underlying23 hj hy0 hy1 hy2 rfl (by decide) _ _ _ rfl (HK.out.alloc _) ⟨W2.heap.size, 0, none⟩ 1 1 (rucells (⟨f, t, a', c'⟩ : Ru)) rfl rfl (fun j u hu => by simpa using rule_new (W2.setCell ⟨wr.heap.size, 1, none⟩ (.slice a' t.length c')) (⟨f, t, a', c'⟩ : Ru) 126 j u hu) (by simp [rucells, Value.oneCell']) (by unfold maxLen; omega) (by omega) (by simp; omega) ?_; intro v2 W4 hown2 hgrow2 _))
        have hk3 : ∀ (o : Obj) g, g < (W2.setCell ⟨wr.heap.size, 1, none⟩ (.slice a' t.length c')).heap.size → ((W2.setCell ⟨wr.heap.size, 1, none⟩ (.slice a' t.length c')).alloc o).heap[g]? = (W2.setCell ⟨wr.heap.size, 1, none⟩ (.slice a' t.length c')).heap[g]? := fun o g hg => Below.heap_alloc _ _ _ hg
        go_roundw
        case rel =>
          refine ⟨q + 1, m ++ [(⟨f, t, a', c'⟩ : Ru)], by omega, by go_num, HNX.out _ rfl, by simp; omega, ⟨?_, ?_⟩, ?_⟩
          · rw [List.length_append, rlcells_app]
            simpa [rlcells] using hown2
          · intro x hx
            rcases List.mem_append.1 hx with hx | hx
            · exact row_other HK.out (HKT.out x hx) (by decide) (hk3 _) (by simp) hgrow2
            · obtain rfl := List.mem_singleton.1 hx
              exact row_other HK.out HKN.out (by decide) (hk3 _) (by simp) hgrow2
          · exact (HB3.out.alloc HB3.out.size _).grown hgrow2 (by have := HB3.out.size; simp at this ⊢; omega) (fun k e => (HK.out.lt k e).1)
        case measure => simp [intOf]; omega
    · obtain rfl : q = l.length := by omega
      have HF : Hid (m.map Ru.q = l.map Ru.q) := by have := HMQ.out; rwa [List.take_length] at this
      go_wp2
      go_ret
      exact ⟨⟨_, m, rfl, HF.out, HOW.out⟩, HB.out⟩
end Go.Proofs.YtmcfkoenpikldaaGreatDoor
