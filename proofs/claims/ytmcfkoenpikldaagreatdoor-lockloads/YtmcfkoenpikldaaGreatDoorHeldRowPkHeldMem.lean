/-
  Own texts of the proof, joined by program: HeldRow, PkHeldMem.
-/
import Derived.Test.YtmcfkoenpikldaaGreatDoorSumTreeHeldPureHeldFacts
import Derived.Test.YtmcfkoenpikldaaGreatDoorCodedKept
import Derived.Test.YtmcfkoenpikldaaGreatDoorMapOwnMapInt
import Derived.Test.YtmcfkoenpikldaaGreatDoorIntsMemHeldProg
import Derived.Lib.OwnBridge
/-
  Trees in a row, where their files lie: no Go text.
-/
namespace Go.Proofs.YtmcfkoenpikldaaGreatDoor

/-- A tree in the row: its sum, its files where they lie. -/
structure Rt where
  n : Nat
  l : List F
  a : Option Addr
  c : Nat
def Rt.tr (r : Rt) : Tr := ⟨r.n, r.l⟩
theorem tr_length (rs : List Rt) : (rs.map Rt.tr).length = rs.length := List.length_map _
end Go.Proofs.YtmcfkoenpikldaaGreatDoor
/-
  What the program holds, in memory: its three cells, a map of trees by their sums, a row of sums: over this seat's translation.
-/
namespace Go.Proofs.YtmcfkoenpikldaaGreatDoor
open Go.RowKit Go.Maps

def treeV (r : Rt) : Value := .slice r.a r.l.length r.c
def treesF (rs : List Rt) (n : Int) : Option Value := (rs.find? fun x => (x.n : Int) == n).map treeV
def sumsI (rs : List Rt) : List Int := rs.map fun x => (x.n : Int)
def sumsV (rs : List Rt) : List Value := (sumsI rs).map iv

theorem trees_none {rs : List Rt} {n : Int} (h : spotH (rs.map Rt.tr) n = none) : treesF rs n = none := by
  have : rs.find? (fun x => (x.n : Int) == n) = none := List.find?_eq_none.2 fun x hx => by
    have := spotH_absent h x.tr (List.mem_map_of_mem hx)
    simpa [Rt.tr] using this
  simp [treesF, this]
theorem trees_some {rs : List Rt} {n : Int} {k : Nat} (h : spotH (rs.map Rt.tr) n = some k) (hk : k < rs.length) : treesF rs n = some (treeV rs[k]) := by
  unfold spotH at h
  obtain ⟨hk', hx, h0⟩ := List.findIdx?_eq_some_iff_getElem.1 h
  have : rs.find? (fun x => (x.n : Int) == n) = some rs[k] := List.find?_eq_some_iff_getElem.2 ⟨by simpa [Rt.tr] using hx, k, hk, rfl, fun j hj => by simpa [Rt.tr] using h0 j hj⟩
  simp [treesF, this]
theorem trees_app {rs : List Rt} (x : Rt) (h : spotH (rs.map Rt.tr) (x.n : Int) = none) : treesF (rs ++ [x]) = fun q => if q = (x.n : Int) then some (treeV x) else treesF rs q := by
  funext q
  by_cases hq : q = (x.n : Int)
  · subst hq
    have h0 : rs.find? (fun y => (y.n : Int) == (x.n : Int)) = none := List.find?_eq_none.2 fun y hy => by
      have := spotH_absent h y.tr (List.mem_map_of_mem hy)
      simpa [Rt.tr] using this
    simp [treesF, List.find?_append, h0]
  · have hne : ¬ (x.n : Int) = q := fun e => hq e.symm
    simp [treesF, List.find?_append, hq, hne]
theorem erase_split {rs : List Rt} {k : Nat} : rs.eraseIdx k = rs.take k ++ rs.drop (k + 1) := List.eraseIdx_eq_take_drop_succ ..
theorem trees_erase {rs : List Rt} {k : Nat} (hk : k < rs.length) (hd : (rs.map fun x => x.n).Nodup) : treesF (rs.eraseIdx k) = fun q => if q = (rs[k].n : Int) then none else treesF rs q := by
  funext q
  by_cases hq : q = (rs[k].n : Int)
  · subst hq
    have h0 : (rs.eraseIdx k).find? (fun y => (y.n : Int) == (rs[k].n : Int)) = none := List.find?_eq_none.2 fun y hy => by
      obtain ⟨i, hi, hik, rfl⟩ := List.mem_eraseIdx_iff_getElem.1 hy
      have h1 : i < (rs.map Rt.tr).length := by simpa using hi
      have h2 : k < (rs.map Rt.tr).length := by simpa using hk
      have := once_lt (l := rs.map Rt.tr) (by rw [List.map_map]; exact hd) h1 h2 hik
      simp only [List.getElem_map, Rt.tr] at this
      simp
      omega
    simp [treesF, h0]
  · have h1 : ((rs[k].n : Int) == q) = false := by simpa using fun e => hq (Eq.symm e)
    have e : rs = rs.take k ++ rs[k] :: rs.drop (k + 1) := by rw [← List.drop_eq_getElem_cons hk, List.take_append_drop]
    have e2 : rs.find? (fun x => (x.n : Int) == q) = (rs.eraseIdx k).find? fun x => (x.n : Int) == q := by
      conv => lhs; rw [e]
      rw [erase_split, List.find?_append, List.find?_append, List.find?_cons, h1]
    simp [treesF, hq, e2]
theorem sums_erase (rs : List Rt) (k : Nat) : sumsI (rs.eraseIdx k) = (sumsI rs).take k ++ (sumsI rs).drop (k + 1) := by
  unfold sumsI
  rw [erase_split, List.map_append, List.map_take, List.map_drop]
theorem sumsI_length (rs : List Rt) : (sumsI rs).length = rs.length := List.length_map _

/-- What the program holds, at a block. -/
structure HeldIn (w : World) (nb bm : Nat) (v : Value) (most : Nat) (rs : List Rt) : Prop where
  c0 : w.cell? ⟨nb, 0, none⟩ = some (.int .i64 most)
  c1 : w.cell? ⟨nb, 1, none⟩ = some (.map (some bm))
  c2 : w.cell? ⟨nb, 2, none⟩ = some v
  live : ∀ j, w.frozen? ⟨nb, j, none⟩ = false
  map : MapInt Tryz.prog w 3 bm rs.length (treesF rs)
  row : w.ownsRow 0 3 1 v rs.length (sumsV rs)
  ne : v.ownBlock ≠ some nb
  lies : ∀ r ∈ rs, LiesAt w r.a r.l ∧ r.l.length ≤ r.c ∧ (r.a = none → r.c = 0 ∧ r.l = [])
  apart : ∀ r ∈ rs, r.l ≠ [] → ∀ b o t, r.a = some ⟨b, o, t⟩ → b ≠ nb ∧ v.ownBlock ≠ some b
/-- What it may write, and what it only reads. -/
def wset (nb bm : Nat) (v : Value) (b : Nat) : Prop := b = nb ∨ b = bm ∨ v.ownBlock = some b
def rset (rs : List Rt) (b : Nat) : Prop := ∃ r ∈ rs, r.l ≠ [] ∧ ∃ o t, r.a = some ⟨b, o, t⟩
def HeldAt (w : World) (nb : Nat) (S R : Nat → Prop) (s : Hs) : Prop := ∃ bm v rs, HeldIn w nb bm v s.most rs ∧ s.l = rs.map Rt.tr ∧ S = wset nb bm v ∧ R = rset rs

section
variable {w w' : World} {nb bm : Nat} {v : Value} {most : Nat} {rs : List Rt}
theorem HeldIn.kept (h : HeldIn w nb bm v most rs) (k : ∀ b, b < w.heap.size → wset nb bm v b ∨ rset rs b → w'.heap[b]? = w.heap[b]?) : HeldIn w' nb bm v most rs := by
  have e0 : w'.heap[nb]? = w.heap[nb]? := k nb (block_lt_of_cell h.c0) (.inl (.inl rfl))
  have hc : ∀ j, w'.cell? ⟨nb, j, none⟩ = w.cell? ⟨nb, j, none⟩ := fun j => by simp [World.cell?, e0]
  have hf : ∀ j, w'.frozen? ⟨nb, j, none⟩ = w.frozen? ⟨nb, j, none⟩ := fun j => by simp [World.frozen?, e0]
  refine ⟨(hc 0).trans h.c0, (hc 1).trans h.c1, (hc 2).trans h.c2, fun j => (hf j).trans (h.live j), h.map.kept (k bm h.map.lt (.inl (.inr (.inl rfl)))), owns_kept h.row fun g hg => k g (h.row.lt g hg).2 (.inl (.inr (.inr hg))), h.ne, fun r hr => ?_, h.apart⟩
  obtain ⟨h1, h2, h3⟩ := h.lies r hr
  refine ⟨lies_kept h1 fun b o t hl e => ?_, h2, h3⟩
  obtain ⟨j, u, hc⟩ := lies_cell h1 hl e
  exact k b (block_lt_of_cell hc) (.inr ⟨r, hr, hl, o, t, e⟩)
theorem HeldIn.lt (h : HeldIn w nb bm v most rs) : ∀ b, wset nb bm v b ∨ rset rs b → b < w.heap.size := by
  rintro b ((rfl | rfl | hb) | ⟨r, hr, hl, o, t, e⟩)
  · exact block_lt_of_cell h.c0
  · exact h.map.lt
  · exact (h.row.lt b hb).2
  · obtain ⟨j, u, hc⟩ := lies_cell (h.lies r hr).1 hl e
    exact block_lt_of_cell hc
/-- What is read is not written. -/
theorem HeldIn.sep (h : HeldIn w nb bm v most rs) {b : Nat} (hr : rset rs b) : ¬ wset nb bm v b := by
  obtain ⟨r, hr, hl, o, t, e⟩ := hr
  obtain ⟨j, u, hc⟩ := lies_cell (h.lies r hr).1 hl e
  rintro (rfl | rfl | hb)
  · exact (h.apart r hr hl _ o t e).1 rfl
  · exact h.map.apart hc rfl
  · exact (h.apart r hr hl b o t e).2 hb
theorem HeldIn.below (h : HeldIn w nb bm v most rs) (hb : Below w.heap.size w w') : HeldIn w' nb bm v most rs := h.kept fun b hl _ => hb.block b hl
theorem HeldIn.bm_ne (h : HeldIn w nb bm v most rs) : nb ≠ bm := fun e => h.map.apart h.c0 e.symm
theorem HeldIn.row_ne (h : HeldIn w nb bm v most rs) : v.ownBlock ≠ some bm := fun e => by
  rcases h.row.2 with ⟨rfl, _⟩ | ⟨g, cap, cur, rfl, _, hg, _⟩
  · cases e
  · cases e
    obtain ⟨M, ⟨es, clock, hb, _⟩, _⟩ := h.map
    rw [hb] at hg
    cases hg
end
theorem HeldAt.lt {w : World} {nb : Nat} {S R : Nat → Prop} {s : Hs} (h : HeldAt w nb S R s) : ∀ b, S b ∨ R b → b < w.heap.size := by
  obtain ⟨bm, v, rs, h, _, rfl, rfl⟩ := h
  exact h.lt
theorem HeldAt.keep {w w' : World} {nb : Nat} {S R : Nat → Prop} {s : Hs} {T : Nat → Prop} (h : HeldAt w nb S R s) (k : Kept T w w') (hT : ∀ b, S b ∨ R b → ¬ T b) : HeldAt w' nb S R s := by
  obtain ⟨bm, v, rs, h, e, rfl, rfl⟩ := h
  exact ⟨bm, v, rs, h.kept fun b hb hs => k.block b hb (hT b hs), e, rfl, rfl⟩
/-- Nothing of it is written. -/
theorem left_same {w w' : World} {nb : Nat} {S R : Nat → Prop} {s : Hs} (h : HeldAt w nb S R s) (hb : Below w.heap.size w w') : HeldLeft HeldAt w nb S R s w' S R :=
  ⟨h.keep (T := fun _ => False) (Kept.of_below hb) (fun _ _ f => f), fun _ hB _ => hb.mono hB, Kept.of_below hb, fun _ => .inl, fun _ h => .inr (.inl h)⟩
/-- One behind the other. -/
theorem HeldLeft.trans {w w1 w2 : World} {nb : Nat} {S R S1 R1 S2 R2 : Nat → Prop} {s1 s2 : Hs} (a : HeldLeft HeldAt w nb S R s1 w1 S1 R1) (b : HeldLeft HeldAt w1 nb S1 R1 s2 w2 S2 R2) : HeldLeft HeldAt w nb S R s2 w2 S2 R2 := by
  have hz := a.kept.size
  refine ⟨b.held, fun B hB hS => ?_, ⟨Nat.le_trans hz b.kept.size, fun g hg hn => ?_⟩, fun g hg => ?_, fun g hg => ?_⟩
  · exact (a.below B hB hS).trans (b.below B (Nat.le_trans hB hz) fun g hg => (a.own g hg).elim (hS g) (Nat.le_trans hB))
  · exact (b.kept.block g (by omega) (fun h1 => (a.own g h1).elim hn (fun e => by omega))).trans (a.kept.block g hg hn)
  · exact (b.own g hg).elim (fun e => (a.own g e).elim .inl .inr) (fun e => .inr (by omega))
  · rcases b.ownR g hg with e | e | e
    · exact (a.own g e).elim .inl (fun e => .inr (.inr e))
    · exact a.ownR g e
    · exact .inr (.inr (by omega))
/-- What is held otherwise, by what it is then. -/
theorem held_left {w w' : World} {nb bm : Nat} {v v' : Value} {most : Nat} {rs rs' : List Rt} (h : HeldIn w nb bm v most rs)
    (c0 : w'.cell? ⟨nb, 0, none⟩ = some (.int .i64 most)) (c1 : w'.cell? ⟨nb, 1, none⟩ = some (.map (some bm))) (c2 : w'.cell? ⟨nb, 2, none⟩ = some v') (live : ∀ j, w'.frozen? ⟨nb, j, none⟩ = false)
    (map : MapInt Tryz.prog w' 3 bm rs'.length (treesF rs')) (row : w'.ownsRow 0 3 1 v' rs'.length (sumsV rs'))
    (hv : ∀ g, v'.ownBlock = some g → v.ownBlock = some g ∨ w.heap.size ≤ g) (kept : Kept (wset nb bm v) w w') (below : ∀ B, B ≤ w.heap.size → (∀ b, wset nb bm v b → B ≤ b) → Below B w w')
    (new : ∀ r ∈ rs', r ∈ rs ∨ (LiesAt w' r.a r.l ∧ r.l.length ≤ r.c ∧ (r.a = none → r.c = 0 ∧ r.l = []) ∧ (r.l ≠ [] → ∀ b o t, r.a = some ⟨b, o, t⟩ → w.heap.size ≤ b ∧ v'.ownBlock ≠ some b))) :
    HeldLeft HeldAt w nb (wset nb bm v) (rset rs) ⟨most, rs'.map Rt.tr⟩ w' (wset nb bm v') (rset rs') := by
  have hnb : nb < w.heap.size := block_lt_of_cell h.c0
  refine ⟨⟨bm, v', rs', ⟨c0, c1, c2, live, map, row, fun e => ?_, fun r hr => ?_, fun r hr hl b o t e => ?_⟩, rfl, rfl, rfl⟩, below, kept, fun b hb => ?_, fun b hb => ?_⟩
  · rcases hv nb e with e | e
    · exact h.ne e
    · omega
  · rcases new r hr with hr | ⟨h1, h2, h3, _⟩
    · obtain ⟨h1, h2, h3⟩ := h.lies r hr
      refine ⟨lies_kept h1 fun b o t hl e => ?_, h2, h3⟩
      have hR : rset rs b := ⟨r, hr, hl, o, t, e⟩
      exact kept.block b (h.lt b (.inr hR)) (h.sep hR)
    · exact ⟨h1, h2, h3⟩
  · rcases new r hr with hr | ⟨_, _, _, h4⟩
    · have hR : rset rs b := ⟨r, hr, hl, o, t, e⟩
      have hlt := h.lt b (.inr hR)
      refine ⟨(h.apart r hr hl b o t e).1, fun e2 => ?_⟩
      rcases hv b e2 with e2 | e2
      · exact (h.apart r hr hl b o t e).2 e2
      · omega
    · have := h4 hl b o t e
      exact ⟨by omega, this.2⟩
  · rcases hb with rfl | rfl | hb
    · exact .inl (.inl rfl)
    · exact .inl (.inr (.inl rfl))
    · exact (hv b hb).elim (fun e => .inl (.inr (.inr e))) .inr
  · obtain ⟨r, hr, hl, o, t, e⟩ := hb
    rcases new r hr with hr | ⟨_, _, _, h4⟩
    · exact .inr (.inl ⟨r, hr, hl, o, t, e⟩)
    · exact .inr (.inr (h4 hl b o t e).1)
/-- A row of numbers is written anew. -/
theorem kept_putRow {enc : Int → Value} {w : World} {g q : Nat} {d : Array Int} {S : Nat → Prop} (hS : S g) : Kept S w (Sort.putRow enc (Sort.ahead w q) g 0 d) :=
  ⟨by simp [Sort.putRow, Sort.mapBlock, Sort.ahead], fun k hk hs => by
    have hne : g ≠ k := fun e => hs (e ▸ hS)
    simp [Sort.putRow, Sort.mapBlock, Sort.ahead, Array.getElem?_modify, hne]⟩
end Go.Proofs.YtmcfkoenpikldaaGreatDoor
