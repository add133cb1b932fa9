/-
  Own texts of the proof, joined by program: FetchPure, FetchMem, PkFetch, PkFetchWays, PkFetchDo, FetchAt.
-/
import Derived.Test.YtmcfkoenpikldaaGreatDoorLinkPureNetPureMirrorPure
import Derived.Test.YtmcfkoenpikldaaGreatDoorPackPurePackFactsWantPure
import Derived.Test.YtmcfkoenpikldaaGreatDoorSumTreeHeldPureHeldFacts
import Derived.Test.YtmcfkoenpikldaaGreatDoorNetDo
import Derived.Test.YtmcfkoenpikldaaGreatDoorPkOpenPkWantOpenPkWantRight
import Derived.Test.YtmcfkoenpikldaaGreatDoorIntsMemHeldProg
import Derived.Test.YtmcfkoenpikldaaGreatDoorRuMemPkMirrorPkRulesPkWays
import Derived.Deep.CutRange
import Derived.OwnWalk
import Derived.Maps.AppendAt
/-
  Fetching, plainly: way after way; what is held needs no net: no machine.
-/
namespace Go.Proofs.YtmcfkoenpikldaaGreatDoor

/-- The word of an error, by its number. -/
def wordsE : List (List UInt8) := [[116, 101, 120, 116], [98, 111, 117, 110, 100], [115, 104, 97, 112, 101], [107, 105, 110, 100], [110, 97, 109, 101], [110, 111, 110, 101], [101, 120, 105, 115, 116], [102, 117, 108, 108], [111, 114, 100, 101, 114], [111, 117, 116], [99, 108, 97, 115, 104], [115, 117, 109], [111, 102, 102]]
/-- An error's text. -/
def textE (c : Nat) : List UInt8 := [99, 104, 97, 110, 100, 108, 101, 114, 121, 58, 32] ++ wordsE.getD (c - 1) []
/-- What is told of a way. -/
def lineF (u : List UInt8) (c : Nat) : List UInt8 := u ++ 32 :: (if c = 0 then [111, 107] else textE c)
def heldF : List (List UInt8) := [[104, 101, 108, 100]]

/-- One way: the net behind it, files, an error's number. -/
def wayF (x : Wt) (s : Ns) (u : List UInt8) : Ns × List F × Nat :=
  if (getN s u).2.2 ≠ 0 then ((getN s u).1, [], (getN s u).2.2) else ((getN s u).1, (rightW x (getN s u).2.1).1, (rightW x (getN s u).2.1).2)
/-- Way after way: the net behind them, files, lines, an error's number (the last one's). -/
def waysF (x : Wt) : Ns → List (List UInt8) → Nat → Ns × List F × List (List UInt8) × Nat
  | s, [], c => (s, [], [], c)
  | s, u :: r, _ =>
    if (wayF x s u).2.2 = 0 then ((wayF x s u).1, (wayF x s u).2.1, [lineF u 0], 0)
    else ((waysF x (wayF x s u).1 r (wayF x s u).2.2).1, (waysF x (wayF x s u).1 r (wayF x s u).2.2).2.1, lineF u (wayF x s u).2.2 :: (waysF x (wayF x s u).1 r (wayF x s u).2.2).2.2.1, (waysF x (wayF x s u).1 r (wayF x s u).2.2).2.2.2)
/-- What is told of what is asked. -/
def askF (l : List Q) (x : Wt) : Nat × Int := if (rulesF l).1 ≠ 0 then rulesF l else (wantCode x, -1)
/-- All ways are tried. -/
def tryF (l : List Q) (x : Wt) (s : Ns) : Ns × List F × List (List UInt8) × Nat × Int :=
  if (askF l x).1 ≠ 0 then (s, [], [], askF l x)
  else ((waysF x s (waysL (closestQ x.u l) x.u) 0).1, (waysF x s (waysL (closestQ x.u l) x.u) 0).2.1, (waysF x s (waysL (closestQ x.u l) x.u) 0).2.2.1, (waysF x s (waysL (closestQ x.u l) x.u) 0).2.2.2, -1)
/-- What is wanted is fetched. -/
def fetchF (l : List Q) (x : Wt) (h : Hs) (s : Ns) : Hs × Ns × List F × List (List UInt8) × Nat × Int :=
  if (askF l x).1 ≠ 0 then (h, s, [], [], askF l x)
  else match spotH h.l x.m with
    | some k => (h, s, ((h.l[k]?).map Tr.l).getD [], heldF, 0, -1)
    | .none => ((if (tryF l x s).2.2.2.1 = 0 then (putH h (tryF l x s).2.1).1 else h), tryF l x s)

theorem right_good {x : Wt} {t : List UInt8} (h : (rightW x t).2 = 0) : (treeFault (rightW x t).1).1 = 0 ∧ (sumT (rightW x t).1 : Int) = x.m := by
  unfold rightW at h ⊢
  split
  · rename_i h0
    rw [if_pos h0] at h
    exact absurd h h0
  · rename_i h0
    rw [if_neg h0] at h
    split
    · rename_i h1
      refine ⟨h1.1, ?_⟩
      rw [sum_yes h1.1]
      exact h1.2
    · rename_i h1
      rw [if_neg h1] at h
      cases h
theorem right_none {x : Wt} {t : List UInt8} (h : (rightW x t).2 ≠ 0) : (rightW x t).1 = [] := by
  unfold rightW at h ⊢
  split
  · rfl
  · rename_i h0
    rw [if_neg h0] at h
    split
    · rename_i h1
      rw [if_pos h1] at h
      exact absurd rfl h
    · rfl
theorem way_good {x : Wt} {s : Ns} {u : List UInt8} (h : (wayF x s u).2.2 = 0) : (treeFault (wayF x s u).2.1).1 = 0 ∧ (sumT (wayF x s u).2.1 : Int) = x.m := by
  unfold wayF at h ⊢
  split
  · rename_i h0
    rw [if_pos h0] at h
    exact absurd h h0
  · rename_i h0
    rw [if_neg h0] at h
    exact right_good h
/-- What is fetched by one of the ways has its sum; a line at least is told; else there are no files. -/
theorem waysF_good (x : Wt) : ∀ (r : List (List UInt8)) (s : Ns) (c : Nat), (r ≠ [] ∨ c ≠ 0) → ((waysF x s r c).2.2.2 = 0 → ((treeFault (waysF x s r c).2.1).1 = 0 ∧ (sumT (waysF x s r c).2.1 : Int) = x.m ∧ (waysF x s r c).2.2.1 ≠ [])) ∧ ((waysF x s r c).2.2.2 ≠ 0 → (waysF x s r c).2.1 = [])
  | [], s, c, h => by
    have hc : c ≠ 0 := h.resolve_left (fun e => e rfl)
    exact ⟨fun h0 => absurd h0 hc, fun _ => rfl⟩
  | u :: r, s, c, _ => by
    unfold waysF
    split
    · rename_i h0
      obtain ⟨h1, h2⟩ := way_good h0
      exact ⟨fun _ => ⟨h1, h2, by simp⟩, fun h => absurd rfl h⟩
    · rename_i h0
      obtain ⟨ih1, ih2⟩ := waysF_good x r (wayF x s u).1 (wayF x s u).2.2 (.inr h0)
      exact ⟨fun h => ⟨(ih1 h).1, (ih1 h).2.1, by simp⟩, ih2⟩
theorem waysL_ne (q : Q) (s : List UInt8) : waysL q s ≠ [] := fun e => by
  have : s ∈ waysL q s := mem_addL.2 (.inr rfl)
  rw [e] at this
  simp at this
theorem tryF_good {l : List Q} {x : Wt} {s : Ns} : ((tryF l x s).2.2.2.1 = 0 → ((treeFault (tryF l x s).2.1).1 = 0 ∧ (sumT (tryF l x s).2.1 : Int) = x.m ∧ (tryF l x s).2.2.1 ≠ [])) ∧ ((tryF l x s).2.2.2.1 ≠ 0 → (tryF l x s).2.1 = []) := by
  unfold tryF
  split
  · rename_i h0
    exact ⟨fun h => absurd h h0, fun _ => rfl⟩
  · exact waysF_good x _ s 0 (.inl (waysL_ne _ _))

/-- FETCHED AT FIRST: nothing is held and nothing comes, or the tree has its sum, and it alone is held. -/
theorem fetch_first {l : List Q} {x : Wt} {s : Ns} {m : Nat} (hm : m ≠ 0) : ((fetchF l x (Hs.none m) s).2.2.2.2.1 ≠ 0 → (fetchF l x (Hs.none m) s).2.2.1 = [] ∧ (fetchF l x (Hs.none m) s).1.l = []) ∧
    ((fetchF l x (Hs.none m) s).2.2.2.2.1 = 0 → (treeFault (fetchF l x (Hs.none m) s).2.2.1).1 = 0 ∧ (sumT (fetchF l x (Hs.none m) s).2.2.1 : Int) = x.m ∧ (fetchF l x (Hs.none m) s).2.2.2.1 ≠ [] ∧ (fetchF l x (Hs.none m) s).1.l = [⟨sumT (fetchF l x (Hs.none m) s).2.2.1, (fetchF l x (Hs.none m) s).2.2.1⟩] ∧ (askF l x).1 = 0) := by
  have hsp : ∀ z, spotH (Hs.none m).l z = .none := fun z => rfl
  unfold fetchF
  split
  · rename_i h0
    exact ⟨fun _ => ⟨rfl, rfl⟩, fun h => absurd h h0⟩
  · rename_i h0
    rw [hsp]
    obtain ⟨h1, h2⟩ := tryF_good (l := l) (x := x) (s := s)
    constructor
    · intro h
      have h' : (tryF l x s).2.2.2.1 ≠ 0 := h
      refine ⟨h2 h', ?_⟩
      show (if (tryF l x s).2.2.2.1 = 0 then (putH (Hs.none m) (tryF l x s).2.1).1 else Hs.none m).l = []
      rw [if_neg h']
      rfl
    · intro h
      have h' : (tryF l x s).2.2.2.1 = 0 := h
      obtain ⟨a1, a2, a3⟩ := h1 h'
      refine ⟨a1, a2, a3, ?_, by simpa using h0⟩
      show (if (tryF l x s).2.2.2.1 = 0 then (putH (Hs.none m) (tryF l x s).2.1).1 else Hs.none m).l = _
      rw [if_pos h', putH_comes (s := Hs.none m) a1 hm (hsp _) (by show ¬ m ≤ 0; omega)]
      rfl
/-- FETCHED AGAIN: what is held is what comes, and no net is asked. -/
theorem fetch_again {l : List Q} {x : Wt} {h : Hs} {s : Ns} {t : List F} (ha : (askF l x).1 = 0) (hl : h.l = [⟨sumT t, t⟩]) (hs : (sumT t : Int) = x.m) : fetchF l x h s = (h, s, t, heldF, 0, -1) := by
  unfold fetchF
  rw [if_neg (by rw [ha]; simp)]
  have hk : 0 < h.l.length := by rw [hl]; simp
  have e : h.l[0]'hk = ⟨sumT t, t⟩ := by simp [hl]
  have hsp : spotH h.l x.m = some 0 := spotH_first hk (by rw [e]; exact hs) fun j _ hj => by omega
  rw [hsp]
  simp [hl]
end Go.Proofs.YtmcfkoenpikldaaGreatDoor
/-
  Fetching: what its walks ask of the listed variables; a net that is called again and again; what is told of each way: over this seat's translation.
-/
namespace Go.Proofs.YtmcfkoenpikldaaGreatDoor
open Go.RowKit Go.Shelf

/-- The errors' texts. -/
structure TextsE (p : Nat → Addr) (w : World) : Prop where
  text : ∀ k, k < 13 → w.cell? (p k) = some (.string ⟨(textE (k + 1)).toArray⟩)
theorem TextsE.below {p : Nat → Addr} {w w' : World} (E : TextsE p w) (hb : Below w.heap.size w w') : TextsE p w' := ⟨fun k hk => (hb.cell (p := p k) (block_lt_of_cell (E.text k hk))).trans (E.text k hk)⟩
/-- What package fetch wants of the listed variables. -/
structure FEnv (p : Nat → Addr) (w : World) : Prop where
  env : Env p w
  sum : SEnv p w
  link : LEnv p w
  texts : TextsE p w
theorem FEnv.below {p : Nat → Addr} {w w' : World} (E : FEnv p w) (hb : Below w.heap.size w w') : FEnv p w' := ⟨E.env.below hb, E.sum.below hb, E.link.below hb, E.texts.below hb⟩
theorem FEnv.net {p : Nat → Addr} {w : World} (E : FEnv p w) : NEnv p w := ⟨E.env, E.link⟩
theorem FEnv.want {p : Nat → Addr} {w : World} (E : FEnv p w) : WEnv p w := ⟨E.env, E.sum, E.link⟩
theorem FEnv.held {p : Nat → Addr} {w : World} (E : FEnv p w) : HEnv p w := ⟨E.env, E.sum⟩

/-- What a net is in memory. -/
abbrev NetIs := World → Nat → (Nat → Prop) → Ns → Prop
section
variable {p : Nat → Addr} {NA : NetIs} {w w1 w2 : World} {nb : Nat} {S S1 S2 : Nat → Prop} {s s1 s2 : Ns}
theorem NetActs.quiet (P : NetActs p NA) (h : NA w nb S s) (hb : Below w.heap.size w w1) : NA w1 nb S s := P.keep (T := fun _ => False) h (Kept.of_below hb) (fun _ _ f => f)
theorem ProgLeft.quiet (P : NetActs p NA) (h : NA w nb S s) (hb : Below w.heap.size w w1) : ProgLeft NA w nb S s w1 S :=
  ⟨P.quiet h hb, fun _ hB _ => hb.mono hB, Kept.of_below hb, fun _ hb => .inl hb⟩
theorem ProgLeft.trans (a : ProgLeft NA w nb S s1 w1 S1) (b : ProgLeft NA w1 nb S1 s2 w2 S2) : ProgLeft NA w nb S s2 w2 S2 := by
  have hz := a.kept.size
  refine ⟨b.net, fun B hB hS => ?_, ⟨Nat.le_trans hz b.kept.size, fun g hg hn => ?_⟩, fun g hg => ?_⟩
  · exact (a.below B hB hS).trans (b.below B (Nat.le_trans hB hz) fun g hg => (a.own g hg).elim (hS g) (Nat.le_trans hB))
  · exact (b.kept.block g (by omega) (fun h1 => (a.own g h1).elim hn (fun e => by omega))).trans (a.kept.block g hg hn)
  · exact (b.own g hg).elim (fun e => (a.own g e).elim .inl .inr) (fun e => .inr (by omega))
theorem ProgLeft.then (P : NetActs p NA) (a : ProgLeft NA w nb S s1 w1 S1) (hb : Below w1.heap.size w1 w2) : ProgLeft NA w nb S s1 w2 S1 := a.trans (ProgLeft.quiet P a.net hb)
/-- Other blocks, new ones, are written. -/
theorem ProgLeft.write (P : NetActs p NA) (a : ProgLeft NA w nb S s1 w1 S1) (T : Nat → Prop) (hk : Kept T w1 w2) (hT : ∀ b, T b → ¬ S1 b) (hB : Below w.heap.size w1 w2) : ProgLeft NA w nb S s1 w2 S1 :=
  ⟨P.keep a.net hk (fun b hs ht => hT b ht hs), fun B hB' hS => (a.below B hB' hS).trans (hB.mono hB'), ⟨Nat.le_trans a.kept.size hk.size, fun g hg hn => (hB.block g hg).trans (a.kept.block g hg hn)⟩, a.own⟩
theorem ProgLeft.old (a : ProgLeft NA w nb S s1 w1 S1) {g : Nat} (hg : g < w.heap.size) (hn : ¬ S g) : ¬ S1 g := fun h1 => (a.own g h1).elim hn (fun e => by omega)
/-- The net lies above what stands. -/
structure InN (NA : NetIs) (w0 W : World) (nb : Nat) (S : Nat → Prop) (s : Ns) : Prop where
  below : Below w0.heap.size w0 W
  net : NA W nb S s
  base : ∀ b, S b → w0.heap.size ≤ b
theorem InN.step {w0 : World} (h : InN NA w0 w nb S s) (l : ProgLeft NA w nb S s1 w1 S1) : InN NA w0 w1 nb S1 s1 :=
  ⟨h.below.trans (l.below _ h.below.size h.base), l.net, fun b hb => (l.own b hb).elim (h.base b) (Nat.le_trans h.below.size)⟩
theorem InN.quiet {w0 : World} (P : NetActs p NA) (h : InN NA w0 w nb S s) (hb : Below w.heap.size w w1) : InN NA w0 w1 nb S s := h.step (ProgLeft.quiet P h.net hb)
end

/-- A want's box is kept. -/
theorem WantAt.kept {w w' : World} {b : Nat} {n u k : List UInt8} {s m : Int} {T : Nat → Prop} (h : WantAt w b n u k s m) (hk : Kept T w w') (hT : ¬ T b) : WantAt w' b n u k s m := by
  have hb := hk.block b h.lt hT
  have hc : ∀ j, w'.cell? ⟨b, j, none⟩ = w.cell? ⟨b, j, none⟩ := fun j => by simp [World.cell?, hb]
  exact ⟨(hc 0).trans h.c0, (hc 1).trans h.c1, (hc 2).trans h.c2, (hc 3).trans h.c3, (hc 4).trans h.c4⟩

/-- Errors' numbers are at most 13. -/
theorem mapPaths_le (g : List UInt8 → List UInt8 × Nat) (hg : ∀ s, (g s).2 ≤ 13) : ∀ (i : Nat) (l : List F), (mapPaths g i l).2.1 ≤ 13
  | _, [] => Nat.zero_le _
  | i, f :: r => by
    have := hg f.p
    have := mapPaths_le g hg (i + 1) r
    rw [mapPaths]
    repeat' split
    all_goals first | omega | (show (0 : Nat) ≤ 13; omega) | assumption
theorem sortT_le (l : List F) : (sortT l).2.1 ≤ 13 := by
  have := treeFault_le (sortF l)
  unfold sortT
  repeat' split
  all_goals first | omega | (show (0 : Nat) ≤ 13; omega) | (show (7 : Nat) ≤ 13; omega) | assumption
theorem stripT_le (l : List F) (n : Int) : (stripT l n).2.1 ≤ 13 := by
  have := treeFault_le l
  have := sortT_le (stripAll n l).1
  have h3 : (stripAll n l).2.1 ≤ 13 := mapPaths_le (fun s => stripL s n) (fun s => stripL_le s n) 0 l
  unfold stripT
  repeat' split
  all_goals first | omega | assumption
theorem readP_le (s : List UInt8) : (readP s).2.1 ≤ 13 := by
  have := treeFault_le (readA s).1
  unfold readP
  repeat' split
  all_goals first | omega | (show (2 : Nat) ≤ 13; omega) | (show (1 : Nat) ≤ 13; omega) | (show (0 : Nat) ≤ 13; omega) | assumption
theorem packT_le (n : Int) (s : List UInt8) : (packT n s).2.1 ≤ 13 := by
  have := readP_le s
  have := stripT_le (readP s).1 n
  unfold packT
  repeat' split
  all_goals first | omega | assumption
theorem openS_le (s : List UInt8) (m : Int) : (openS s m).2.1 ≤ 13 := by
  cases h : (readL s).2 with
  | some k =>
    rw [openS_some m h]
    show (1 : Nat) ≤ 13
    omega
  | none =>
    by_cases hm : m < sizeL (readL s).1
    · rw [openS_full h hm]
      show (8 : Nat) ≤ 13
      omega
    · rw [openS_fine h hm]
      show (0 : Nat) ≤ 13
      omega
theorem pressT_le (n : Int) (s : List UInt8) : (pressT n s).2.1 ≤ 13 := by
  have := openS_le s 20000
  have := packT_le n (openS s 20000).1
  unfold pressT
  repeat' split
  all_goals first | omega | assumption
theorem plainT_le (x : Wt) (s : List UInt8) : (plainT x s).2 ≤ 13 := by
  have := treeFault_le [⟨x.n, false, s⟩]
  unfold plainT
  repeat' split
  all_goals first | omega | (show (0 : Nat) ≤ 13; omega) | assumption
theorem openW_le (x : Wt) (s : List UInt8) : (openW x s).2 ≤ 13 := by
  have := want_le x
  have := plainT_le x s
  have := packT_le x.s s
  have := pressT_le x.s s
  unfold openW
  repeat' split
  all_goals first | omega | (show (2 : Nat) ≤ 13; omega) | (show wantCode x ≤ 13; omega) | assumption
theorem rightW_le (x : Wt) (s : List UInt8) : (rightW x s).2 ≤ 13 := by
  have := openW_le x s
  unfold rightW
  repeat' split
  all_goals first | omega | (show (0 : Nat) ≤ 13; omega) | (show (12 : Nat) ≤ 13; omega) | assumption
theorem wayF_le (x : Wt) (s : Ns) (u : List UInt8) : (wayF x s u).2.2 ≤ 13 := by
  have := getN_le s u
  have := rightW_le x (getN s u).2.1
  unfold wayF
  repeat' split
  all_goals first | omega | assumption
theorem waysF_le (x : Wt) : ∀ (r : List (List UInt8)) (s : Ns) (c : Nat), c ≤ 13 → (waysF x s r c).2.2.2 ≤ 13
  | [], _, _, h => h
  | u :: r, s, c, _ => by
    rw [waysF]
    split
    · show (0 : Nat) ≤ 13
      omega
    · exact waysF_le x r _ _ (wayF_le x s u)
theorem askF_le (l : List Q) (x : Wt) : (askF l x).1 ≤ 13 := by
  have := rulesF_small l
  have := want_le x
  unfold askF
  split
  · omega
  · show wantCode x ≤ 13
    omega
theorem tryF_le (l : List Q) (x : Wt) (s : Ns) : (tryF l x s).2.2.2.1 ≤ 13 := by
  have := askF_le l x
  unfold tryF
  split
  · exact this
  · exact waysF_le x _ s 0 (by omega)

/-- What the net is behind a way: its texts are what they were, and it was asked once more, at most. -/
theorem get_same (s : Ns) (u : List UInt8) : (getN s u).1.l = s.l ∧ (getN s u).1.off = s.off ∧ s.calls ≤ (getN s u).1.calls ∧ (getN s u).1.calls ≤ s.calls + 1 := by
  unfold getN
  repeat' split
  all_goals simp
theorem way_same (x : Wt) (s : Ns) (u : List UInt8) : (wayF x s u).1 = (getN s u).1 := by
  unfold wayF
  split <;> rfl
theorem get_short {s : Ns} (u : List UInt8) {m : Nat} (h : ∀ x ∈ s.l, x.t.length ≤ m) : (getN s u).2.1.length ≤ m := by
  unfold getN
  split
  · simp
  · split
    · simp
    · split
      · simp
      · rename_i k hk
        obtain ⟨hl, _⟩ := spot_some hk
        have := h _ (List.getElem_mem hl)
        simp only [hl, List.getElem?_eq_getElem, Option.map_some, Option.getD_some]
        unfold comesN
        split
        · rw [List.length_take]
          omega
        · exact this

/-- So many ways were tried, none was right. -/
def AfterW (x : Wt) (all : List (List UInt8)) (s0 : Ns) (k : Nat) (s : Ns) (ls : List (List UInt8)) (c : Nat) : Prop :=
  waysF x s0 all 0 = ((waysF x s (all.drop k) c).1, (waysF x s (all.drop k) c).2.1, ls ++ (waysF x s (all.drop k) c).2.2.1, (waysF x s (all.drop k) c).2.2.2)
theorem AfterW.zero (x : Wt) (all : List (List UInt8)) (s0 : Ns) : AfterW x all s0 0 s0 [] 0 := by
  unfold AfterW
  simp
theorem AfterW.bad {x : Wt} {all : List (List UInt8)} {s0 : Ns} {k : Nat} {s : Ns} {ls : List (List UInt8)} {c : Nat} (h : AfterW x all s0 k s ls c) (hk : k < all.length) (hb : (wayF x s all[k]).2.2 ≠ 0) :
    AfterW x all s0 (k + 1) (wayF x s all[k]).1 (ls ++ [lineF all[k] (wayF x s all[k]).2.2]) (wayF x s all[k]).2.2 := by
  unfold AfterW at h ⊢
  rw [List.drop_eq_getElem_cons hk, waysF, if_neg hb] at h
  rw [h]
  simp
theorem AfterW.good {x : Wt} {all : List (List UInt8)} {s0 : Ns} {k : Nat} {s : Ns} {ls : List (List UInt8)} {c : Nat} (h : AfterW x all s0 k s ls c) (hk : k < all.length) (hb : (wayF x s all[k]).2.2 = 0) :
    waysF x s0 all 0 = ((wayF x s all[k]).1, (wayF x s all[k]).2.1, ls ++ [lineF all[k] 0], 0) := by
  unfold AfterW at h
  rw [List.drop_eq_getElem_cons hk, waysF, if_pos hb] at h
  exact h
theorem AfterW.all {x : Wt} {all : List (List UInt8)} {s0 : Ns} {s : Ns} {ls : List (List UInt8)} {c : Nat} (h : AfterW x all s0 all.length s ls c) : waysF x s0 all 0 = (s, [], ls, c) := by
  unfold AfterW at h
  rw [List.drop_length] at h
  simpa [waysF] using h
end Go.Proofs.YtmcfkoenpikldaaGreatDoor
/-
  Package fetch: check, byWay, byWays: contracts, over whatever the program's net is (NetActs), and this seat's translation.
-/
namespace Go.Proofs.YtmcfkoenpikldaaGreatDoor
open Go.RowKit Go.Shelf

theorem Tryz.errAhead (a : Addr) (w : World) : (nilAhead 519 379 (.pointer (some a)) "Error").run Tryz.prog w = .ok (some false) w := by kernel_rfl
theorem Tryz.errMethod (a : Addr) (w : World) : (Go.method 519 379 (.pointer (some a)) "Error").run Tryz.prog w = .ok (379, .pointer (some a)) w := by kernel_rfl

theorem errError_any (p : Nat → Addr) (j : Nat) (w : World) (hT : TextsE p w) (hj : j < 13) :
    Calls Tryz.prog 379 #[.pointer (some (p j))] w fun e w' => e = .returned (.string ⟨(textE (j + 1)).toArray⟩) ∧ w' = w := by
  have h0 := hT.text j hj
  clear hT
  generalize p j = a at h0 ⊢
  generalize textE (j + 1) = t at h0 ⊢
  obtain ⟨b, o, sp⟩ := a
  have hsp : sp = none := World.cell?_spot h0
  subst hsp
  go_enter Tryz.func379, Tryz.ntmps379
  go_wp2
  go_ret
  exact ⟨rfl, rfl⟩

theorem ask_rules {l : List Q} {x : Wt} (h : (rulesF l).1 ≠ 0) : askF l x = rulesF l := by unfold askF; rw [if_pos h]
theorem ask_want {l : List Q} {x : Wt} (h : (rulesF l).1 = 0) : askF l x = (wantCode x, -1) := by unfold askF; rw [if_neg (by rw [h]; simp)]
theorem ask_zero {l : List Q} {x : Wt} (h : (askF l x).1 = 0) : (rulesF l).1 = 0 ∧ wantCode x = 0 := by
  by_cases h0 : (rulesF l).1 = 0
  · rw [ask_want h0] at h
    exact ⟨h0, h⟩
  · rw [ask_rules h0] at h
    exact absurd h h0
theorem ask_fine {l : List Q} {x : Wt} (h : (askF l x).1 = 0) : askF l x = (0, -1) := by
  rw [ask_want (ask_zero h).1, (ask_zero h).2]

set_option maxRecDepth 100000 in
set_option maxHeartbeats 1000000 in
theorem fetchCheck_any (p : Nat → Addr) (nb : Nat) (l : List Ru) (a : Option Addr) (ca : Nat) (n u k : List UInt8) (g m : Int) (w : World) (hE : FEnv p w) (hl : RulesAt w a l) (hs : RuSmall l) (hn : n.length ≤ 40000) (hu : u.length ≤ 20000) :
    Calls Tryz.prog 67 #[.pointer (some ⟨nb, 0, none⟩), .slice a l.length ca, wv ⟨n, u, k, g, m⟩] w fun e w' => (∃ v, e = .returned v ∧ ErrAt p w' v (askF (l.map Ru.q) ⟨n, u, k, g, m⟩).1 (askF (l.map Ru.q) ⟨n, u, k, g, m⟩).2) ∧ Below w.heap.size w w' := by
  have HE := Lib.hid hE
  have hb0 : Below w.heap.size w (w.alloc (wo n u k g m)) := (Below.refl _ _).alloc (Nat.le_refl _) _
  have HE0 := Lib.hid (hE.below hb0)
  have HL0 := Lib.hid (hl.below hb0)
  have HS := Lib.hid hs
  have hwl := want_le ⟨n, u, k, g, m⟩
  clear hE hl hs hb0
  go_enter Tryz.func67, Tryz.ntmps67
  go_wp2_with fail
  refine (mirrorCheck_any p l a ca _ HE0.out.link HL0.out HS.out).mono ?_
  rintro e w1 ⟨⟨v, rfl, herr⟩, hb1⟩
  obtain ⟨hw1, hB1⟩ := want_box hb1
  have HB1 := Lib.hid hB1
  have HE1 := Lib.hid (HE.out.below hB1)
  by_cases h0 : (rulesF (l.map Ru.q)).1 = 0
  · rw [h0] at herr
    obtain rfl := herr.isNil
    have HF := Lib.hid (ask_want (x := ⟨n, u, k, g, m⟩) h0)
    obtain ⟨c0, c1, c2, c3, c4⟩ := hw1
    clear herr hb1 hB1 h0 HE0 HL0 HS
    go_wp2_with fail
    refine (wantCheck_any p n u k g m _ HE1.out.want (by omega) (by omega)).mono ?_
    rintro e w2 ⟨rfl, hb2⟩
    have HB2 := Lib.hid (HB1.out.trans (hb2.mono HB1.out.size))
    clear hb2 c0 c1 c2 c3 c4
    go_wp2
    go_ret
    exact ⟨⟨_, rfl, by rw [HF.out]; exact ErrAt.bare (by omega)⟩, HB2.out⟩
  · obtain ⟨T, y, rfl⟩ := herr.some h0
    have HF := Lib.hid (ask_rules (x := ⟨n, u, k, g, m⟩) h0)
    have HV := Lib.hid herr
    clear herr hb1 hB1 h0 hw1 HE0 HL0 HS
    go_wp2
    go_ret
    exact ⟨⟨_, rfl, by rw [HF.out]; exact HV.out⟩, HB1.out⟩

/-- What one way gives. -/
def GotW (p : Nat → Addr) (NA : NetIs) (w : World) (nb : Nat) (S : Nat → Prop) (r : Ns × List F × Nat) (e : Ending) (w' : World) : Prop :=
  ∃ a ca S', e = .returned (.tuple #[.slice a r.2.1.length ca, errV p r.2.2]) ∧ LiesAt w' a r.2.1 ∧ r.2.1.length ≤ ca ∧ NewL w.heap.size a ca r.2.1 ∧ (r.2.1 ≠ [] → ∀ b o t, a = some ⟨b, o, t⟩ → ¬ S' b) ∧ ProgLeft NA w nb S r.1 w' S'
theorem GotW.none {p : Nat → Addr} {NA : NetIs} {w w' : World} {nb : Nat} {S S' : Nat → Prop} {s : Ns} {c : Nat} {r : Ns × List F × Nat} (hr : r = (s, [], c)) (l : ProgLeft NA w nb S s w' S') : GotW p NA w nb S r (.returned (.tuple #[.slice none 0 0, errV p c])) w' := by
  subst hr
  exact ⟨Option.none, 0, S', rfl, fun h => absurd rfl h, Nat.le_refl _, NewL.none _, fun h => absurd rfl h, l⟩

theorem wayF_none {x : Wt} {s : Ns} {u : List UInt8} {c : Nat} (h : (getN s u).2.2 = c + 1) : wayF x s u = ((getN s u).1, [], c + 1) := by unfold wayF; rw [if_pos (by omega), h]
theorem wayF_came {x : Wt} {s : Ns} {u : List UInt8} (h : (getN s u).2.2 = 0) : wayF x s u = ((getN s u).1, (rightW x (getN s u).2.1).1, (rightW x (getN s u).2.1).2) := by unfold wayF; rw [if_neg (by omega)]

set_option maxRecDepth 100000 in
set_option maxHeartbeats 2000000 in
theorem byWay_any {p : Nat → Addr} {NA : NetIs} (P : NetActs p NA) (nb : Nat) (S : Nat → Prop) (s : Ns) (v n u k : List UInt8) (g m : Int) (w0 w : World) (hI : InN NA w0 w nb S s) (hE : FEnv p w0) (hc : s.calls ≤ 1000) (ht : ∀ x ∈ s.l, x.t.length ≤ 90000) (hv : v.length ≤ 90000) (hn : n.length ≤ 40000) (hu : u.length ≤ 90000) :
    Calls Tryz.prog 129 #[.pointer (some ⟨nb, 0, none⟩), .string ⟨v.toArray⟩, wv ⟨n, u, k, g, m⟩] w fun e w' => GotW p NA w nb S (wayF ⟨n, u, k, g, m⟩ s v) e w' := by
  have hb0 : Below w.heap.size w (w.alloc (wo n u k g m)) := (Below.refl _ _).alloc (Nat.le_refl _) _
  have HE := Lib.hid hE
  have HI0 := Lib.hid (hI.quiet P hb0)
  have HL0 := Lib.hid (ProgLeft.quiet P hI.net hb0)
  have HW0 := Lib.hid (WantAt.new w n u k g m)
  have HX : Hid (¬ S w.heap.size) := fun h => by have := P.lt hI.net _ h; omega
  have hg := get_short (s := s) v ht
  clear hE hI ht hb0
  go_enter Tryz.func129, Tryz.ntmps129
  go_wp2_with fail
  refine (P.get _ nb S s v HI0.out.net (HE.out.below HI0.out.below).net hc hv).mono ?_
  rintro e w1 ⟨rfl, S1, l1⟩
  have HL1 := Lib.hid (HL0.out.trans l1)
  have HW1 := Lib.hid (HW0.out.kept l1.kept HX.out)
  have HB1 := Lib.hid (l1.kept.size)
  have HEE := Lib.hid (HE.out.below (HI0.out.step l1).below)
  clear l1
  cases hcode : (getN s v).2.2 with
  | succ c =>
    have HF := Lib.hid (wayF_none (x := ⟨n, u, k, g, m⟩) hcode)
    rw [errV_some p (Nat.succ_ne_zero c)]
    clear hcode
    go_wp2
    go_ret2
    exact GotW.none HF.out HL1.out
  | zero =>
    have HF := Lib.hid (wayF_came (x := ⟨n, u, k, g, m⟩) hcode)
    rw [errV_zero]
    obtain ⟨c0, c1, c2, c3, c4⟩ := HW1.out
    clear hcode
    generalize (getN s v).2.1 = t at HF hg ⊢
    go_wp2_with fail
    refine (wantRight_new p n u k g m t _ HEE.out.want hn hu hg).mono ?_
    rintro e w2 ⟨⟨a, ca, rfl, hl, hca, hnw⟩, hb2⟩
    have HL2 := Lib.hid (HL1.out.then P hb2)
    have HG : Hid (GotW p NA w nb S (wayF ⟨n, u, k, g, m⟩ s v) (.returned (.tuple #[.slice a (rightW ⟨n, u, k, g, m⟩ t).1.length ca, errV p (rightW ⟨n, u, k, g, m⟩ t).2])) w2) := by
      show GotW _ _ _ _ _ _ _ _
      rw [HF.out]
      exact ⟨a, ca, S1, rfl, hl, hca, hnw.mono (by have := HB1.out; simp at this; omega), fun hne b o t' e hS => by have := hnw.new hne b o t' e; have := P.lt HL1.out.net b hS; omega, HL2.out⟩
    clear hl hca hnw hb2 c0 c1 c2 c3 c4
    go_wp2
    go_ret2
    exact HG.out
end Go.Proofs.YtmcfkoenpikldaaGreatDoor
/-
  Package fetch: byWays: a contract, over whatever the program's net is (NetActs), and this seat's translation.
-/
namespace Go.Proofs.YtmcfkoenpikldaaGreatDoor
open Go.RowKit Go.Shelf

/-- What all ways give. -/
def GotF (p : Nat → Addr) (NA : NetIs) (w : World) (nb : Nat) (S : Nat → Prop) (r : Ns × List F × List (List UInt8) × Nat) (e : Ending) (w' : World) : Prop :=
  ∃ a ca al cl S', e = .returned (.tuple #[.slice a r.2.1.length ca, .slice al r.2.2.1.length cl, errV p r.2.2.2]) ∧ LiesAt w' a r.2.1 ∧ r.2.1.length ≤ ca ∧ NewL w.heap.size a ca r.2.1 ∧ (r.2.1 ≠ [] → ∀ b o t, a = some ⟨b, o, t⟩ → ¬ S' b) ∧
    w'.ownsRow w.heap.size 9 1 (.slice al r.2.2.1.length cl) r.2.2.1.length (r.2.2.1.map sv) ∧ ProgLeft NA w nb S r.1 w' S'
theorem GotF.of {p : Nat → Addr} {NA : NetIs} {w w' : World} {nb : Nat} {S S' : Nat → Prop} {r : Ns × List F × List (List UInt8) × Nat} {s : Ns} {T : List F} {ls : List (List UInt8)} {c : Nat} {a al : Option Addr} {ca cl : Nat} (hr : r = (s, T, ls, c)) (h1 : LiesAt w' a T) (h2 : T.length ≤ ca) (h3 : NewL w.heap.size a ca T) (h4 : T ≠ [] → ∀ b o t, a = some ⟨b, o, t⟩ → ¬ S' b)
    (h5 : w'.ownsRow w.heap.size 9 1 (.slice al ls.length cl) ls.length (ls.map sv)) (h6 : ProgLeft NA w nb S s w' S') : GotF p NA w nb S r (.returned (.tuple #[.slice a T.length ca, .slice al ls.length cl, errV p c])) w' := by
  subst hr
  exact ⟨a, ca, al, cl, S', rfl, h1, h2, h3, h4, h5, h6⟩

/-- The ways are few, and not too long. -/
theorem ways_few {l : List Q} (h : (rulesF l).1 = 0) (u : List UInt8) : (waysL (closestQ u l) u).length ≤ 9 := by
  have h1 : (closestQ u l).2.length ≤ 8 := by
    rcases closestG_mem Prod.fst u l noQ with e | e
    · have : closestQ u l = noQ := e
      rw [this]
      simp [noQ]
    · exact (ruleK_zero ((rulesF_zero.1 h).2 _ e)).2.1
  have := waysL_length (closestQ u l) u
  omega
theorem ways_short {l : List Ru} (h : RuSmall l) (u : List UInt8) : ∀ x ∈ waysL (closestQ u (l.map Ru.q)) u, x.length ≤ 20000 + u.length := by
  refine waysL_short _ u (fun t ht => ?_)
  rcases closestG_mem Prod.fst u (l.map Ru.q) noQ with e | e
  · have : closestQ u (l.map Ru.q) = noQ := e
    rw [this] at ht
    simp [noQ] at ht
  · obtain ⟨r, hr, e2⟩ := List.mem_map.1 e
    have e3 : closestQ u (l.map Ru.q) = r.q := e2.symm
    rw [e3] at ht
    exact h.texts r hr t ht

/-- Texts are kept where other blocks are written. -/
theorem TextsAt.kept {w w' : World} {a : Option Addr} {l : List (List UInt8)} {T : Nat → Prop} (h : TextsAt w a l) (hk : Kept T w w') (hT : ∀ b o t, a = some ⟨b, o, t⟩ → ¬ T b) : TextsAt w' a l := fun hl => by
  obtain ⟨b, o, e, hc⟩ := h hl
  have hlt := block_lt_of_cell (hc 0 (List.length_pos_iff.2 hl))
  have hb := hk.block b hlt (hT b o none e)
  exact ⟨b, o, e, fun k hk' => by
    have : w'.cell? ⟨b, o + k, none⟩ = w.cell? ⟨b, o + k, none⟩ := by simp [World.cell?, hb]
    exact this.trans (hc k hk')⟩
/-- Behind an append to a row of one's own: what is kept. -/
theorem kept_append {w w' : World} {o : Obj} {v : Value} (hg : (w.alloc o).grownBy w' v.ownBlock) : Kept (fun b => v.ownBlock = some b) w w' :=
  ⟨Nat.le_trans (by simp) hg.size, fun b hb hn => (hg.block b (by simp; omega) (fun e => hn e.symm)).trans (Below.heap_alloc _ _ _ hb)⟩
theorem textE_short (c : Nat) : (textE c).length ≤ 20 := by
  have h : ∀ k, (wordsE.getD k []).length ≤ 5 := fun k => by
    by_cases hk : k < 13
    · have : ∀ j, j < 13 → (wordsE.getD j []).length ≤ 5 := by decide
      exact this k hk
    · rw [List.getD_eq_getElem?_getD, List.getElem?_eq_none (by simp [wordsE]; omega)]
      simp
  have := h (c - 1)
  unfold textE
  rw [List.length_append]
  simp only [List.length_cons, List.length_nil]
  omega
theorem ok_line (v : List UInt8) : (⟨v.toArray⟩ : ByteArray) ++ ⟨#[32]⟩ ++ ⟨#[111, 107]⟩ = ⟨(lineF v 0).toArray⟩ := by
  apply ByteArray.ext
  simp [lineF]
theorem bad_line (v : List UInt8) (c : Nat) : (⟨v.toArray⟩ : ByteArray) ++ ⟨#[32]⟩ ++ ⟨(textE (c + 1)).toArray⟩ = ⟨(lineF v (c + 1)).toArray⟩ := by
  apply ByteArray.ext
  simp [lineF]

set_option maxRecDepth 100000 in
set_option maxHeartbeats 8000000 in
theorem byWays_any {p : Nat → Addr} {NA : NetIs} (P : NetActs p NA) (nb : Nat) (S : Nat → Prop) (s : Ns) (l : List Ru) (a : Option Addr) (ca : Nat) (n u k : List UInt8) (g m : Int) (w0 w : World) (hI : InN NA w0 w nb S s) (hE : FEnv p w0) (hc : s.calls ≤ 900) (ht : ∀ x ∈ s.l, x.t.length ≤ 90000) (hl : RulesAt w a l) (hs : RuSmall l) (hn : n.length ≤ 40000) (hu : u.length ≤ 20000) (h0 : (rulesF (l.map Ru.q)).1 = 0) (h1 : checkK u = 0) :
    Calls Tryz.prog 68 #[.pointer (some ⟨nb, 0, none⟩), .slice a l.length ca, wv ⟨n, u, k, g, m⟩] w fun e w' => GotF p NA w nb S (waysF ⟨n, u, k, g, m⟩ s (waysL (closestQ u (l.map Ru.q)) u) 0) e w' := by
  obtain ⟨i0, hi, hz0, hz1, hz2⟩ := info_parts Tryz.info9
  have hb0 : Below w.heap.size w (w.alloc (wo n u k g m)) := (Below.refl _ _).alloc (Nat.le_refl _) _
  have HE := Lib.hid hE
  have HI0 := Lib.hid (hI.quiet P hb0)
  have HL0 := Lib.hid (ProgLeft.quiet P hI.net hb0)
  have HR0 := Lib.hid (hl.below hb0)
  have HS := Lib.hid hs
  have HT := Lib.hid ht
  have HSL : Hid (∀ b, S b → b < w.heap.size) := fun b h => P.lt hI.net b h
  have hw0 := hI.below.size
  have HSB := Lib.hid hI.base
  have HQ := Lib.hid (waysQ_ok (s := u) h0 h1)
  have hfew := ways_few h0 u
  have HSH := Lib.hid (ways_short hs u)
  obtain ⟨c0, c1, c2, c3, c4⟩ := WantAt.new w n u k g m
  clear hE hI hb0 ht hl hs h0 h1
  obtain ⟨ways, hways⟩ : ∃ y, waysL (closestQ u (l.map Ru.q)) u = y := ⟨_, rfl⟩
  rw [hways] at HQ hfew HSH ⊢
  clear hways
  go_enter Tryz.func68, Tryz.ntmps68
  go_wp2_with fail
  refine (ways_any p u l a ca _ (HE.out.below HI0.out.below).link HR0.out HS.out hu).mono ?_
  rintro e w2 ⟨⟨vw, vu, rfl, htw⟩, hb2⟩
  rw [HQ.out] at htw
  obtain ⟨herr, hrow⟩ := htw
  obtain rfl := herr.isNil
  simp only at hrow
  obtain ⟨aw, cw, rfl, hta, hcw, _⟩ := texts_of_owns hrow
  have HL2 := Lib.hid (HL0.out.then P hb2)
  have HI2 := Lib.hid (HI0.out.quiet P hb2)
  have HW2 := Lib.hid ((WantAt.new w n u k g m).below hb2)
  have hz := hb2.size
  simp at hz
  have HTA := Lib.hid hta
  have HOW : Hid (∀ gg, (Value.slice aw ways.length cw).ownBlock = some gg → w.heap.size < gg ∧ gg < w2.heap.size) := fun gg h => ⟨by have := (hrow.lt gg h).1; simp at this; omega, (hrow.lt gg h).2⟩
  clear herr hta hb2 hrow c0 c1 c2 c3 c4 HQ HI0 HL0 HR0 HS
  go_wp2_with fail
  go_loopw [10, 11, 27] (fun ev lv i wr => ∃ (q : Nat) (S' : Nat → Prop) (s' : Ns) (ls : List (List UInt8)) (c : Nat), q ≤ ways.length ∧ i = .int .i64 q ∧ ev = errV p c ∧ (AfterW ⟨n, u, k, g, m⟩ ways s q s' ls c ∧ ls.length = q ∧ s'.calls ≤ s.calls + q ∧ s'.l = s.l) ∧ wr.ownsRow w2.heap.size 9 1 lv ls.length (ls.map sv) ∧ (∀ gg, lv.ownBlock = some gg → ¬ S' gg) ∧ ProgLeft NA w2 nb S s' wr S' ∧ (Below w0.heap.size w0 wr ∧ w2.heap.size ≤ wr.heap.size) ∧ TextsAt wr aw ways ∧ WantAt wr w.heap.size n u k g m) (fun _ _ i _ => ways.length - (intOf i).toNat)
  case atStart => exact ⟨0, S, s, [], 0, Nat.zero_le _, rfl, rfl, ⟨AfterW.zero _ _ _, rfl, Nat.le_refl _, rfl⟩, World.ownsRow_nil _ _ _ _, fun gg h => by simp [Value.ownBlock] at h, ProgLeft.quiet P HL2.out.net (Below.refl _ _), ⟨HI2.out.below, Nat.le_refl _⟩, HTA.out, HW2.out⟩
  case round =>
    obtain ⟨q, S', s', ls, c, hq, rfl, rfl, ⟨haf, hls, hcl, hsl⟩, hown, hap, hleft, ⟨hbel, hsz⟩, htx, hwa⟩ := hrel
    have HAF := Lib.hid haf
    have HLS := Lib.hid hls
    have HOWN := Lib.hid hown
    have HAP := Lib.hid hap
    have HLF := Lib.hid hleft
    have HTX := Lib.hid htx
    have HWA := Lib.hid hwa
    have HNO : Hid (∀ b, S' b → b < w.heap.size ∨ w2.heap.size ≤ b) := fun b hb => (hleft.own b hb).imp (HSL.out b) id
    have HIR : Hid (InN NA w0 wr nb S' s') := ⟨hbel, hleft.net, fun b hb => (hleft.own b hb).elim (HSB.out b) (fun h => by omega)⟩
    have hlq : ls.length ≤ 9 := by omega
    have HSAME := Lib.hid hsl
    obtain ⟨c0, c1, c2, c3, c4⟩ := hwa
    clear haf hls hown hap hleft htx hbel hsl
    by_cases hlt : q < ways.length
    · have hlt' : (q : Int) < (ways.length : Int) := by omega
      obtain ⟨b, o, rfl, k0⟩ := HTX.out.at hlt
      have hvl := HSH.out _ (List.getElem_mem hlt)
      have HBAD := Lib.hid (fun h => HAF.out.bad hlt h)
      have HGOOD := Lib.hid (fun h => HAF.out.good hlt h)
      have hle := wayF_le ⟨n, u, k, g, m⟩ s' ways[q]
      generalize ways[q] = v at k0 hvl HBAD HGOOD hle
      go_wp2_with fail
      refine (byWay_any P nb S' s' v n u k g m w0 wr HIR.out HE.out (by omega) (by rw [HSAME.out]; exact HT.out) (by omega) hn (by omega)).mono ?_
      rintro e w3 ⟨a3, ca3, S3, rfl, hl3, hc3, hn3, ha3, l3⟩
      have HI3 := Lib.hid (HIR.out.step l3)
      have HL3 := Lib.hid (HLF.out.trans l3)
      have HO3 := Lib.hid (owns_kept HOWN.out fun gg e => l3.kept.block gg (HOWN.out.lt gg e).2 (HAP.out gg e))
      have HTX3 : Hid (TextsAt w3 (some ⟨b, o, none⟩) ways) := HTX.out.kept l3.kept fun b' o' t' e hS => by
        cases e
        have h1 := HOW.out b rfl
        have h2 := HNO.out b hS
        omega
      have HWA3 : Hid (WantAt w3 w.heap.size n u k g m) := HWA.out.kept l3.kept fun hS => by
        have h2 := HNO.out _ hS
        omega
      have HAP3 : Hid (∀ gg, u11.ownBlock = some gg → ¬ S3 gg) := fun gg e h3 => (l3.own gg h3).elim (HAP.out gg e) (fun h => by have := (HOWN.out.lt gg e).2; omega)
      have HOL : Hid (∀ gg, u11.ownBlock = some gg → w2.heap.size ≤ gg ∧ gg < wr.heap.size) := fun gg e => HOWN.out.lt gg e
      have hs3 : wr.heap.size ≤ w3.heap.size := l3.kept.size
      have hc3' : (wayF ⟨n, u, k, g, m⟩ s' v).1.calls ≤ s'.calls + 1 ∧ (wayF ⟨n, u, k, g, m⟩ s' v).1.l = s'.l := by
        rw [way_same]
        exact ⟨(get_same s' v).2.2.2, (get_same s' v).1⟩
      have HC3 := Lib.hid hc3'
      have HLI := Lib.hid hl3
      have HNE := Lib.hid hn3
      have HAA := Lib.hid ha3
      clear l3 hl3 hn3 ha3 k0 c0 c1 c2 c3 c4 hc3' HOWN HAP HLF HTX HWA HIR
      generalize wayF ⟨n, u, k, g, m⟩ s' v = r at *
      obtain ⟨s3, T3, cc⟩ := r
      simp only at hc3 hle HC3 HLI HNE HAA HBAD HGOOD HL3 HI3
      cases cc with
      | zero =>
        rw [errV_zero]
        have hnew : ∀ j y, [sv (lineF v 0)][j]? = some y → (w3.alloc (.cells #[.string (⟨v.toArray⟩ ++ ⟨#[32]⟩ ++ ⟨#[111, 107]⟩)] 9)).cell? ((⟨w3.heap.size, 0, none⟩ : Addr).add j) = some y := by rw [ok_line]; exact text_new _ _ _
        have HNEW := Lib.hid hnew
        clear hnew
        go_wp2_with (at_builtin; go_loud (refine wpList_append_own _ rfl _ _ 35 rfl w2.heap.size 9 i0 (.string ⟨#[]⟩) 1 16 Tryz.underlying35 hi hz0 hz1 hz2 rfl (by decide) _ _ _ rfl (HO3.out.alloc _) ⟨w3.heap.size, 0, none⟩ 1 1 [sv (lineF v 0)] rfl rfl HNEW.out (by simp [Value.oneCell']) (by unfold maxLen; omega) (by omega) (by simp; omega) ?_; intro v' w4 hown' hgrow _))
        have hk4 := kept_append hgrow
        have hb4 : Below w2.heap.size w3 w4 := ((Below.refl _ _).alloc (by omega) _).grown hgrow (by simp; omega) (fun gg e => (HOL.out gg e).1)
        have HL4 := Lib.hid (HL2.out.trans (HL3.out.write P _ hk4 (fun b e => HAP3.out b e) hb4))
        have HLI4 := Lib.hid (lies_left HLI.out hk4 fun hne b' o' t' e e2 => by
          have h1 := HNE.out.new hne b' o' t' e
          have h2 := HOL.out b' e2
          omega)
        obtain ⟨al, cl, rfl⟩ := owns_slice hown'
        have HROW : Hid (w4.ownsRow w.heap.size 9 1 (.slice al (ls ++ [lineF v 0]).length cl) (ls ++ [lineF v 0]).length ((ls ++ [lineF v 0]).map sv)) := by
          have := hown'.mono (show w.heap.size ≤ w2.heap.size by omega)
          show World.ownsRow _ _ _ _ _ _ _
          rw [List.length_append, List.map_append]
          exact this
        have HG : Hid (GotF p NA w nb S (waysF ⟨n, u, k, g, m⟩ s ways 0) (.returned (.tuple #[.slice a3 T3.length ca3, .slice al (ls.length + 1) cl, .nilIface])) w4) := by
          have := GotF.of (p := p) (HGOOD.out (by trivial)) HLI4.out hc3 (HNE.out.mono (by omega)) HAA.out HROW.out HL4.out
          rw [List.length_append] at this
          exact this
        clear hk4 hb4 hown' hgrow
        go_ret3
        exact HG.out
      | succ cc =>
        have hcc : cc < 13 := by omega
        have htl := textE_short (cc + 1)
        have hnew : ∀ j y, [sv (lineF v (cc + 1))][j]? = some y → (w3.alloc (.cells #[.string (⟨v.toArray⟩ ++ ⟨#[32]⟩ ++ ⟨(textE (cc + 1)).toArray⟩)] 9)).cell? ((⟨w3.heap.size, 0, none⟩ : Addr).add j) = some y := by rw [bad_line]; exact text_new _ _ _
        have HNEW := Lib.hid hnew
        have hm1 := Tryz.errAhead (p cc)
        have hm2 := Tryz.errMethod (p cc)
        clear hnew
        rw [errV_some p (Nat.succ_ne_zero cc)]
        go_wp2_with fail
        refine (errError_any p cc _ (HE.out.below HI3.out.below).texts hcc).mono ?_
        rintro e w' ⟨rfl, hw'⟩
        obtain rfl : w3 = w' := hw'.symm
        go_wp2_with (at_builtin; go_loud (refine wpList_append_own_at _ rfl _ _ 35 rfl w2.heap.size 9 i0 (.string ⟨#[]⟩) 1 16 Tryz.underlying35 hi hz0 hz1 hz2 rfl (by decide) _ _ _ rfl (HO3.out.alloc _) ⟨w3.heap.size, 0, none⟩ 1 1 [sv (lineF v (cc + 1))] rfl rfl HNEW.out (by simp [Value.oneCell']) (by unfold maxLen; omega) (by omega) (by simp; omega) ?_; intro v' w4 hown' hgrow _ hblk))
        have hk4 := kept_append hgrow
        have hb4 : Below w2.heap.size w3 w4 := ((Below.refl _ _).alloc (by omega) _).grown hgrow (by simp; omega) (fun gg e => (HOL.out gg e).1)
        have HL4 := Lib.hid (HL3.out.write P _ hk4 (fun b e => HAP3.out b e) hb4)
        have HTX4 : Hid (TextsAt w4 (some ⟨b, o, none⟩) ways) := HTX3.out.kept hk4 fun b' o' t' e e2 => by
          cases e
          have h1 := HOW.out b rfl
          have h2 := HOL.out b e2
          omega
        have HWA4 : Hid (WantAt w4 w.heap.size n u k g m) := HWA3.out.kept hk4 fun e2 => by
          have h2 := HOL.out _ e2
          omega
        have HROW : Hid (w4.ownsRow w2.heap.size 9 1 v' (ls ++ [lineF v (cc + 1)]).length ((ls ++ [lineF v (cc + 1)]).map sv)) := by
          show World.ownsRow _ _ _ _ _ _ _
          rw [List.length_append, List.map_append]
          exact hown'
        have HB4 : Hid (Below w0.heap.size w0 w4) := HI3.out.below.trans (hb4.mono (by omega))
        have HSZ : Hid (w2.heap.size ≤ w4.heap.size) := by have := hb4.size; show w2.heap.size ≤ w4.heap.size; omega
        have HAP4 : Hid (∀ gg, v'.ownBlock = some gg → ¬ S3 gg) := fun gg e h3 => by
          rcases hblk with h | h
          · exact HAP3.out gg (h ▸ e) h3
          · rw [h] at e
            have h2 := P.lt HL3.out.net gg h3
            simp at e
            omega
        have HAFN := Lib.hid (HBAD.out (by simp))
        have HLN : Hid ((ls ++ [lineF v (cc + 1)]).length = q + 1) := by
          show List.length _ = _
          rw [List.length_append, HLS.out]
          rfl
        have HCN : Hid (s3.calls ≤ s.calls + (q + 1) ∧ s3.l = s.l) := ⟨by have := HC3.out.1; omega, HC3.out.2.trans HSAME.out⟩
        clear hk4 hb4 hown' hgrow hblk
        go_wp2
        go_roundw
        case rel => exact ⟨q + 1, S3, s3, _, cc + 1, by omega, by go_num, (errV_some p (Nat.succ_ne_zero cc)).symm, ⟨HAFN.out, HLN.out, HCN.out.1, HCN.out.2⟩, HROW.out, HAP4.out, HL4.out, ⟨HB4.out, HSZ.out⟩, HTX4.out, HWA4.out⟩
        case measure => simp [intOf]; omega
    · obtain rfl : q = ways.length := by omega
      have HF := Lib.hid HAF.out.all
      obtain ⟨al, cl, rfl⟩ := owns_slice HOWN.out
      have HG : Hid (GotF p NA w nb S (waysF ⟨n, u, k, g, m⟩ s ways 0) (.returned (.tuple #[.slice none 0 0, .slice al ls.length cl, errV p c])) wr) := GotF.of HF.out (fun h => absurd rfl h) (Nat.le_refl _) (NewL.none _) (fun h => absurd rfl h) (HOWN.out.mono (by omega)) (HL2.out.trans HLF.out)
      have hlt' : ¬ ((ways.length : Int) < (ways.length : Int)) := by omega
      clear c0 c1 c2 c3 c4
      go_wp2
      go_ret3
      exact HG.out
end Go.Proofs.YtmcfkoenpikldaaGreatDoor
/-
  Package fetch: Try, Fetch: contracts, over whatever the program's net and what it holds are (by its contracts), and this seat's translation.
-/
namespace Go.Proofs.YtmcfkoenpikldaaGreatDoor
open Go.RowKit Go.Shelf

/-- A wrong call: nothing is got, nothing is written. -/
def BadF (p : Nat → Addr) (w : World) (r : Nat × Int) (e : Ending) (w' : World) : Prop :=
  (∃ v, e = .returned (.tuple #[.slice none 0 0, .slice none 0 0, v]) ∧ ErrAt p w' v r.1 r.2) ∧ Below w.heap.size w w'

set_option maxRecDepth 100000 in
set_option maxHeartbeats 1000000 in
theorem fetchTry_bad (p : Nat → Addr) (nb : Nat) (l : List Ru) (a : Option Addr) (ca : Nat) (n u k : List UInt8) (g m : Int) (w : World) (hE : FEnv p w) (hl : RulesAt w a l) (hs : RuSmall l) (hn : n.length ≤ 40000) (hu : u.length ≤ 20000) (h : (askF (l.map Ru.q) ⟨n, u, k, g, m⟩).1 ≠ 0) :
    Calls Tryz.prog 15 #[.pointer (some ⟨nb, 0, none⟩), .slice a l.length ca, wv ⟨n, u, k, g, m⟩] w fun e w' => BadF p w (askF (l.map Ru.q) ⟨n, u, k, g, m⟩) e w' := by
  have hb0 : Below w.heap.size w (w.alloc (wo n u k g m)) := (Below.refl _ _).alloc (Nat.le_refl _) _
  have HC := Lib.hid (fetchCheck_any p nb l a ca n u k g m _ (hE.below hb0) (hl.below hb0) hs hn hu)
  have HB0 := Lib.hid hb0
  have HA := Lib.hid h
  obtain ⟨c0, c1, c2, c3, c4⟩ := WantAt.new w n u k g m
  clear hE hl hs hb0 h
  go_enter Tryz.func15, Tryz.ntmps15
  go_wp2_with fail
  refine HC.out.mono ?_
  rintro e w1 ⟨⟨v, rfl, hv⟩, hb1⟩
  obtain ⟨T, y, rfl⟩ := hv.some HA.out
  have HV := Lib.hid hv
  have HB1 := Lib.hid (HB0.out.trans (hb1.mono HB0.out.size))
  clear hv hb1 c0 c1 c2 c3 c4 HC HA
  go_wp2
  go_ret3
  exact ⟨⟨_, rfl, HV.out⟩, HB1.out⟩

set_option maxRecDepth 100000 in
set_option maxHeartbeats 1000000 in
theorem fetchTry_good {p : Nat → Addr} {NA : NetIs} (P : NetActs p NA) (nb : Nat) (S : Nat → Prop) (s : Ns) (l : List Ru) (a : Option Addr) (ca : Nat) (n u k : List UInt8) (g m : Int) (w0 w : World) (hI : InN NA w0 w nb S s) (hE : FEnv p w0) (hc : s.calls ≤ 900) (ht : ∀ x ∈ s.l, x.t.length ≤ 90000) (hl : RulesAt w a l) (hs : RuSmall l) (hn : n.length ≤ 40000) (hu : u.length ≤ 20000) (h : (askF (l.map Ru.q) ⟨n, u, k, g, m⟩).1 = 0) :
    Calls Tryz.prog 15 #[.pointer (some ⟨nb, 0, none⟩), .slice a l.length ca, wv ⟨n, u, k, g, m⟩] w fun e w' => GotF p NA w nb S (waysF ⟨n, u, k, g, m⟩ s (waysL (closestQ u (l.map Ru.q)) u) 0) e w' := by
  have hb0 : Below w.heap.size w (w.alloc (wo n u k g m)) := (Below.refl _ _).alloc (Nat.le_refl _) _
  have HC := Lib.hid (fetchCheck_any p nb l a ca n u k g m _ (hE.below (hI.quiet P hb0).below) (hl.below hb0) hs hn hu)
  have HI0 := Lib.hid (hI.quiet P hb0)
  have HL0 := Lib.hid (ProgLeft.quiet P hI.net hb0)
  have HR0 := Lib.hid (hl.below hb0)
  have HA := Lib.hid h
  have HE := Lib.hid hE
  have HT := Lib.hid ht
  have HS := Lib.hid hs
  have HW0 := Lib.hid (WantAt.new w n u k g m)
  have HB0 := Lib.hid hb0
  obtain ⟨hr0, hq0⟩ := ask_zero h
  have HR := Lib.hid hr0
  have HU := Lib.hid ((want_zero hq0).2.1)
  obtain ⟨c0, c1, c2, c3, c4⟩ := WantAt.new w n u k g m
  clear hE hl hs hb0 h hI ht hr0 hq0
  obtain ⟨r, hr⟩ : ∃ y, waysF ⟨n, u, k, g, m⟩ s (waysL (closestQ u (l.map Ru.q)) u) 0 = y := ⟨_, rfl⟩
  rw [hr]
  have HWR := Lib.hid hr
  clear hr
  go_enter Tryz.func15, Tryz.ntmps15
  go_wp2_with fail
  refine HC.out.mono ?_
  rintro e w1 ⟨⟨v, rfl, hv⟩, hb1⟩
  rw [HA.out] at hv
  obtain rfl := hv.isNil
  have HI1 := Lib.hid (HI0.out.quiet P hb1)
  have HL1 := Lib.hid (HL0.out.then P hb1)
  have HR1 := Lib.hid (HR0.out.below hb1)
  have HZ := Lib.hid (HB0.out.trans (hb1.mono HB0.out.size)).size
  obtain ⟨d0, d1, d2, d3, d4⟩ := HW0.out.below hb1
  clear hv hb1 c0 c1 c2 c3 c4 HC HA
  go_wp2_with fail
  refine (byWays_any P nb S s l a ca n u k g m w0 _ HI1.out HE.out hc HT.out HR1.out HS.out hn hu HR.out HU.out).mono ?_
  rw [HWR.out]
  rintro e w2 ⟨a2, ca2, al, cl, S2, rfl, q1, q2, q3, q4, q5, q6⟩
  have HG : Hid (GotF p NA w nb S r _ w2) := ⟨a2, ca2, al, cl, S2, rfl, q1, q2, q3.mono HZ.out, q4, q5.mono HZ.out, HL1.out.trans q6⟩
  clear q1 q2 q3 q4 q5 q6 d0 d1 d2 d3 d4
  go_wp2
  go_ret3
  exact HG.out

/-- A net, and what is held, apart from it; both above what stands. -/
structure InF (NA : NetIs) (HA : HeldIs) (w0 W : World) (nb hb : Nat) (S Sh Rh : Nat → Prop) (s : Ns) (h : Hs) : Prop where
  net : InN NA w0 W nb S s
  held : InH HA w0 W hb Sh Rh h
  apart : ∀ b, S b → ¬ (Sh b ∨ Rh b)
section
variable {p : Nat → Addr} {NA : NetIs} {HA : HeldIs} {w0 w w1 : World} {nb hb : Nat} {S S1 Sh Rh Sh1 Rh1 : Nat → Prop} {s s1 : Ns} {h h1 : Hs}
theorem InF.net_step (P2 : HeldCore p HA) (i : InF NA HA w0 w nb hb S Sh Rh s h) (l : ProgLeft NA w nb S s1 w1 S1) : InF NA HA w0 w1 nb hb S1 Sh Rh s1 h :=
  ⟨i.net.step l, ⟨(i.net.step l).below, P2.keep i.held.held l.kept (fun b hb hs => i.apart b hs hb), i.held.base, i.held.ok⟩, fun b hb hs => (l.own b hb).elim (fun e => i.apart b e hs) (fun e => by have := P2.lt i.held.held b hs; omega)⟩
theorem InF.held_step (P : NetActs p NA) (i : InF NA HA w0 w nb hb S Sh Rh s h) (l : HeldLeft HA w hb Sh Rh h1 w1 Sh1 Rh1) (ok : OkH h1) : InF NA HA w0 w1 nb hb S Sh1 Rh1 s h1 :=
  ⟨⟨(i.held.step l ok).below, P.keep i.net.net l.kept (fun b hb hs => i.apart b hb (.inl hs)), i.net.base⟩, i.held.step l ok, fun b hb hs => by
    have hlt := P.lt i.net.net b hb
    rcases hs with hs | hs
    · exact (l.own b hs).elim (fun e => i.apart b hb (.inl e)) (fun e => by omega)
    · rcases l.ownR b hs with e | e | e
      · exact i.apart b hb (.inl e)
      · exact i.apart b hb (.inr e)
      · omega⟩
theorem InF.quiet (P : NetActs p NA) (P2 : HeldCore p HA) (i : InF NA HA w0 w nb hb S Sh Rh s h) (hq : Below w.heap.size w w1) : InF NA HA w0 w1 nb hb S Sh Rh s h :=
  ⟨i.net.quiet P hq, i.held.quiet P2 hq, i.apart⟩
end

/-- What a call that fetches leaves. -/
structure FLeft (NA : NetIs) (HA : HeldIs) (w0 w : World) (nb hb : Nat) (S Sh Rh : Nat → Prop) (s' : Ns) (h' : Hs) (w' : World) (S' Sh' Rh' : Nat → Prop) : Prop where
  both : InF NA HA w0 w' nb hb S' Sh' Rh' s' h'
  kept : Kept (fun b => S b ∨ Sh b) w w'
  own : ∀ b, S' b → S b ∨ w.heap.size ≤ b
  ownH : ∀ b, Sh' b → Sh b ∨ w.heap.size ≤ b
  ownR : ∀ b, Rh' b → Sh b ∨ Rh b ∨ w.heap.size ≤ b
section
variable {p : Nat → Addr} {NA : NetIs} {HA : HeldIs} {w0 w w1 w2 : World} {nb hb : Nat} {S S1 S2 Sh Rh Sh1 Rh1 Sh2 Rh2 : Nat → Prop} {s s1 s2 : Ns} {h h1 h2 : Hs}
theorem FLeft.quiet (P : NetActs p NA) (P2 : HeldCore p HA) (i : InF NA HA w0 w nb hb S Sh Rh s h) (hq : Below w.heap.size w w1) : FLeft NA HA w0 w nb hb S Sh Rh s h w1 S Sh Rh :=
  ⟨i.quiet P P2 hq, Kept.of_below hq, fun _ => .inl, fun _ => .inl, fun _ hb => .inr (.inl hb)⟩
theorem FLeft.of_net (P2 : HeldCore p HA) (i : InF NA HA w0 w nb hb S Sh Rh s h) (l : ProgLeft NA w nb S s1 w1 S1) : FLeft NA HA w0 w nb hb S Sh Rh s1 h w1 S1 Sh Rh :=
  ⟨i.net_step P2 l, l.kept.more fun _ _ hb => .inl hb, l.own, fun _ => .inl, fun _ hb => .inr (.inl hb)⟩
theorem FLeft.of_held (P : NetActs p NA) (i : InF NA HA w0 w nb hb S Sh Rh s h) (l : HeldLeft HA w hb Sh Rh h1 w1 Sh1 Rh1) (ok : OkH h1) : FLeft NA HA w0 w nb hb S Sh Rh s h1 w1 S Sh1 Rh1 :=
  ⟨i.held_step P l ok, l.kept.more fun _ _ hb => .inr hb, fun _ => .inl, l.own, l.ownR⟩
theorem FLeft.trans (a : FLeft NA HA w0 w nb hb S Sh Rh s1 h1 w1 S1 Sh1 Rh1) (b : FLeft NA HA w0 w1 nb hb S1 Sh1 Rh1 s2 h2 w2 S2 Sh2 Rh2) : FLeft NA HA w0 w nb hb S Sh Rh s2 h2 w2 S2 Sh2 Rh2 := by
  have hz := a.kept.size
  refine ⟨b.both, ⟨Nat.le_trans hz b.kept.size, fun g hg hn => ?_⟩, fun g hg => ?_, fun g hg => ?_, fun g hg => ?_⟩
  · refine (b.kept.block g (by omega) (fun h1 => ?_)).trans (a.kept.block g hg hn)
    rcases h1 with h1 | h1
    · exact (a.own g h1).elim (fun e => hn (.inl e)) (fun e => by omega)
    · exact (a.ownH g h1).elim (fun e => hn (.inr e)) (fun e => by omega)
  · exact (b.own g hg).elim (fun e => a.own g e) (fun e => .inr (by omega))
  · exact (b.ownH g hg).elim (fun e => a.ownH g e) (fun e => .inr (by omega))
  · rcases b.ownR g hg with e | e | e
    · exact (a.ownH g e).elim .inl (fun e => .inr (.inr e))
    · exact a.ownR g e
    · exact .inr (.inr (by omega))
end

/-- What a call that fetches gives. -/
def GotH (p : Nat → Addr) (NA : NetIs) (HA : HeldIs) (w0 w : World) (nb hb : Nat) (S Sh Rh : Nat → Prop) (r : Hs × Ns × List F × List (List UInt8) × Nat × Int) (e : Ending) (w' : World) : Prop :=
  ∃ a ca al cl S' Sh' Rh', e = .returned (.tuple #[.slice a r.2.2.1.length ca, .slice al r.2.2.2.1.length cl, errV p r.2.2.2.2.1]) ∧ LiesAt w' a r.2.2.1 ∧ r.2.2.1.length ≤ ca ∧ NewL w.heap.size a ca r.2.2.1 ∧ (r.2.2.1 ≠ [] → ∀ b o t, a = some ⟨b, o, t⟩ → ¬ (S' b ∨ Sh' b)) ∧
    w'.ownsRow w.heap.size 9 1 (.slice al r.2.2.2.1.length cl) r.2.2.2.1.length (r.2.2.2.1.map sv) ∧ FLeft NA HA w0 w nb hb S Sh Rh r.2.1 r.1 w' S' Sh' Rh'
theorem GotH.of {p : Nat → Addr} {NA : NetIs} {HA : HeldIs} {w0 w w' : World} {nb hb : Nat} {S Sh Rh S' Sh' Rh' : Nat → Prop} {r : Hs × Ns × List F × List (List UInt8) × Nat × Int} {h : Hs} {s : Ns} {T : List F} {ls : List (List UInt8)} {c : Nat} {i : Int} {a al : Option Addr} {ca cl : Nat} (hr : r = (h, s, T, ls, c, i))
    (h1 : LiesAt w' a T) (h2 : T.length ≤ ca) (h3 : NewL w.heap.size a ca T) (h4 : T ≠ [] → ∀ b o t, a = some ⟨b, o, t⟩ → ¬ (S' b ∨ Sh' b)) (h5 : w'.ownsRow w.heap.size 9 1 (.slice al ls.length cl) ls.length (ls.map sv)) (h6 : FLeft NA HA w0 w nb hb S Sh Rh s h w' S' Sh' Rh') :
    GotH p NA HA w0 w nb hb S Sh Rh r (.returned (.tuple #[.slice a T.length ca, .slice al ls.length cl, errV p c])) w' := by
  subst hr
  exact ⟨a, ca, al, cl, S', Sh', Rh', rfl, h1, h2, h3, h4, h5, h6⟩

set_option maxRecDepth 100000 in
set_option maxHeartbeats 1000000 in
theorem fetchFetch_bad (p : Nat → Addr) (hb nb : Nat) (l : List Ru) (a : Option Addr) (ca : Nat) (n u k : List UInt8) (g m : Int) (w : World) (hE : FEnv p w) (hl : RulesAt w a l) (hs : RuSmall l) (hn : n.length ≤ 40000) (hu : u.length ≤ 20000) (h : (askF (l.map Ru.q) ⟨n, u, k, g, m⟩).1 ≠ 0) :
    Calls Tryz.prog 21 #[.pointer (some ⟨hb, 0, none⟩), .pointer (some ⟨nb, 0, none⟩), .slice a l.length ca, wv ⟨n, u, k, g, m⟩] w fun e w' => BadF p w (askF (l.map Ru.q) ⟨n, u, k, g, m⟩) e w' := by
  have hb0 : Below w.heap.size w (w.alloc (wo n u k g m)) := (Below.refl _ _).alloc (Nat.le_refl _) _
  have HC := Lib.hid (fetchCheck_any p nb l a ca n u k g m _ (hE.below hb0) (hl.below hb0) hs hn hu)
  have HB0 := Lib.hid hb0
  have HA := Lib.hid h
  obtain ⟨c0, c1, c2, c3, c4⟩ := WantAt.new w n u k g m
  clear hE hl hs hb0 h
  go_enter Tryz.func21, Tryz.ntmps21
  go_wp2_with fail
  refine HC.out.mono ?_
  rintro e w1 ⟨⟨v, rfl, hv⟩, hb1⟩
  obtain ⟨T, y, rfl⟩ := hv.some HA.out
  have HV := Lib.hid hv
  have HB1 := Lib.hid (HB0.out.trans (hb1.mono HB0.out.size))
  clear hv hb1 c0 c1 c2 c3 c4 HC HA
  go_wp2
  go_ret3
  exact ⟨⟨_, rfl, HV.out⟩, HB1.out⟩

theorem fetch_held {l : List Q} {x : Wt} {h : Hs} {s : Ns} {k : Nat} (ha : (askF l x).1 = 0) (hk : spotH h.l x.m = some k) (hl : k < h.l.length) : fetchF l x h s = (h, s, h.l[k].l, heldF, 0, -1) := by
  unfold fetchF
  rw [if_neg (by rw [ha]; simp), hk]
  simp [hl]
theorem fetch_tried {l : List Q} {x : Wt} {h : Hs} {s : Ns} (ha : (askF l x).1 = 0) (hk : spotH h.l x.m = none) : fetchF l x h s = ((if (tryF l x s).2.2.2.1 = 0 then (putH h (tryF l x s).2.1).1 else h), tryF l x s) := by
  unfold fetchF
  rw [if_neg (by rw [ha]; simp), hk]
theorem try_ways {l : List Q} {x : Wt} {s : Ns} {r : Ns × List F × List (List UInt8) × Nat} (ha : (askF l x).1 = 0) (hr : waysF x s (waysL (closestQ x.u l) x.u) 0 = r) : tryF l x s = (r.1, r.2.1, r.2.2.1, r.2.2.2, -1) := by
  unfold tryF
  rw [if_neg (by rw [ha]; simp), hr]
theorem held_line (w : World) (B : Nat) (x : List UInt8) (hB : B ≤ w.heap.size) : (w.alloc (.cells #[sv x] 9)).ownsRow B 9 1 (.slice (some ⟨w.heap.size, 0, none⟩) 1 1) 1 [sv x] :=
  ⟨rfl, .inr ⟨w.heap.size, 1, #[sv x], rfl, hB, heap_new w _, Nat.le_refl _, by unfold maxLen; omega, rfl, rfl⟩⟩
theorem sum_fit {m : Int} (h : isS m = true) : (Lit.int .i64 m).wf = true := by
  have h1 : IntKind.i64.min = -9223372036854775808 := by decide
  have h2 : IntKind.i64.max = 9223372036854775807 := by decide
  simp only [isS, decide_eq_true_eq] at h
  simp only [Lit.wf, h1, h2, Bool.and_eq_true, decide_eq_true_eq]
  omega

set_option maxRecDepth 100000 in
set_option maxHeartbeats 4000000 in
theorem fetchFetch_good {p : Nat → Addr} {NA : NetIs} {HA : HeldIs} (P : NetActs p NA) (P2 : HeldCore p HA) (nb hb : Nat) (S Sh Rh : Nat → Prop) (s : Ns) (h : Hs) (l : List Ru) (a : Option Addr) (ca : Nat) (n u k : List UInt8) (g m : Int) (w0 w : World) (hI : InF NA HA w0 w nb hb S Sh Rh s h) (hE : FEnv p w0) (hc : s.calls ≤ 900) (ht : ∀ x ∈ s.l, x.t.length ≤ 90000) (hl : RulesAt w a l) (hs : RuSmall l) (hn : n.length ≤ 40000) (hu : u.length ≤ 20000) (hask : (askF (l.map Ru.q) ⟨n, u, k, g, m⟩).1 = 0) :
    Calls Tryz.prog 21 #[.pointer (some ⟨hb, 0, none⟩), .pointer (some ⟨nb, 0, none⟩), .slice a l.length ca, wv ⟨n, u, k, g, m⟩] w fun e w' => GotH p NA HA w0 w nb hb S Sh Rh (fetchF (l.map Ru.q) ⟨n, u, k, g, m⟩ h s) e w' := by
  have hb0 : Below w.heap.size w (w.alloc (wo n u k g m)) := (Below.refl _ _).alloc (Nat.le_refl _) _
  have HC := Lib.hid (fetchCheck_any p nb l a ca n u k g m _ (hE.below (hI.net.quiet P hb0).below) (hl.below hb0) hs hn hu)
  have HI0 := Lib.hid (hI.quiet P P2 hb0)
  have HL0 := Lib.hid (FLeft.quiet P P2 hI hb0)
  have HR0 := Lib.hid (hl.below hb0)
  have HK := Lib.hid hask
  have HE := Lib.hid hE
  have HT := Lib.hid ht
  have HS := Lib.hid hs
  have HW0 := Lib.hid (WantAt.new w n u k g m)
  have HB0 := Lib.hid hb0
  obtain ⟨hr0, hq0⟩ := ask_zero hask
  have HR := Lib.hid hr0
  have HU := Lib.hid ((want_zero hq0).2.1)
  have HM := Lib.hid (sum_fit (want_zero hq0).2.2.2.2.2)
  obtain ⟨c0, c1, c2, c3, c4⟩ := WantAt.new w n u k g m
  clear hE hl hs hb0 hask hI ht hr0 hq0
  go_enter Tryz.func21, Tryz.ntmps21
  go_wp2_with fail
  refine HC.out.mono ?_
  rintro e w1 ⟨⟨v, rfl, hv⟩, hb1⟩
  rw [HK.out] at hv
  obtain rfl := hv.isNil
  have HI1 := Lib.hid (HI0.out.quiet P P2 hb1)
  have HL1 := Lib.hid (HL0.out.trans (FLeft.quiet P P2 HI0.out hb1))
  have HR1 := Lib.hid (HR0.out.below hb1)
  have HZ1 := Lib.hid (HB0.out.trans (hb1.mono HB0.out.size)).size
  have HW1 := Lib.hid (HW0.out.below hb1)
  obtain ⟨d0, d1, d2, d3, d4⟩ := HW0.out.below hb1
  clear hv hb1 c0 c1 c2 c3 c4 HC HI0 HL0 HR0 HW0 HB0
  go_wp2_with fail
  refine (P2.get _ hb Sh Rh h m HI1.out.held.held (HE.out.below HI1.out.held.below).held HI1.out.held.ok HM.out).mono ?_
  rintro e w2 ⟨⟨a2, c2, rfl, n2⟩, hb2⟩
  have HI2 := Lib.hid (HI1.out.quiet P P2 hb2)
  have HL2 := Lib.hid (HL1.out.trans (FLeft.quiet P P2 HI1.out hb2))
  have HR2 := Lib.hid (HR1.out.below hb2)
  have HW2 := Lib.hid (HW1.out.below hb2)
  have HZ2 : Hid (w.heap.size ≤ w2.heap.size ∧ w1.heap.size ≤ w2.heap.size) := ⟨Nat.le_trans HZ1.out hb2.size, hb2.size⟩
  have HN2 := Lib.hid n2
  have HAP2 := Lib.hid (HI1.out.held.apart P2 n2)
  clear n2 hb2 d0 d1 d2 d3 d4
  cases hk : spotH h.l m with
  | some q =>
    obtain ⟨hql, _⟩ := spotH_some hk
    have HF := Lib.hid (fetch_held (x := ⟨n, u, k, g, m⟩) (s := s) HK.out hk hql)
    have hg := getH_some (s := h) hk hql
    rw [hg] at HN2
    rw [hg]
    generalize h.l[q].l = T at HF HN2 ⊢
    simp only at HN2
    rw [errV_zero]
    clear hk hg
    have HG : ∀ w3, Below w2.heap.size w2 w3 → w3.ownsRow w.heap.size 9 1 (.slice (some ⟨w2.heap.size, 0, none⟩) 1 1) 1 [sv [104, 101, 108, 100]] → GotH p NA HA w0 w nb hb S Sh Rh (fetchF (l.map Ru.q) ⟨n, u, k, g, m⟩ h s) (.returned (.tuple #[.slice a2 T.length c2, .slice (some ⟨w2.heap.size, 0, none⟩) 1 1, .nilIface])) w3 := fun w3 hb3 hr3 =>
      GotH.of HF.out (HN2.out.lies.below hb3) HN2.out.cap ⟨fun _ b o t e => by have := (HN2.out.new b o t e).1; have := HZ1.out; omega, fun e => (HN2.out.nil e).1⟩ (fun _ b o t e hS => by
        have h1 := (HN2.out.new b o t e).1
        rcases hS with hS | hS
        · have := P.lt HI1.out.net.net b hS; omega
        · have := P2.lt HI1.out.held.held b (.inl hS); omega) (ls := heldF) (cl := 1) hr3 (HL2.out.trans (FLeft.quiet P P2 HI2.out hb3))
    have HGG := Lib.hid (HG _ ((Below.refl _ _).alloc (Nat.le_refl _) _) (held_line w2 w.heap.size [104, 101, 108, 100] HZ2.out.1))
    clear HG
    go_wp2
    go_ret3
    exact HGG.out
  | none =>
    have hg := getH_none (s := h) hk
    obtain ⟨r, hr⟩ : ∃ y, waysF ⟨n, u, k, g, m⟩ s (waysL (closestQ u (l.map Ru.q)) u) 0 = y := ⟨_, rfl⟩
    have hf := fetch_tried (x := ⟨n, u, k, g, m⟩) (s := s) HK.out hk
    rw [try_ways HK.out hr] at hf
    have hgood := waysF_good ⟨n, u, k, g, m⟩ (waysL (closestQ u (l.map Ru.q)) u) s 0 (.inl (waysL_ne _ _))
    rw [hr] at hgood
    have HF := Lib.hid hf
    have HQ := Lib.hid hgood
    have HWR := Lib.hid hr
    rw [hg, errV_some p (by decide : (6 : Nat) ≠ 0)]
    obtain ⟨e0, e1, e2, e3, e4⟩ := HW2.out
    clear hk hg hr hf hgood HN2 HAP2
    go_wp2_with fail
    refine (byWays_any P nb S s l a ca n u k g m w0 _ HI2.out.net HE.out hc HT.out HR2.out HS.out hn hu HR.out HU.out).mono ?_
    rw [HWR.out]
    obtain ⟨s3, T, ls, c⟩ := r
    rintro e w3 ⟨a3, c3, al, cl, S3, rfl, q1, q2, q3, q4, q5, q6⟩
    simp only at q1 q2 q3 q4 q5 q6 HF HQ
    have HI3 := Lib.hid (HI2.out.net_step P2 q6)
    have HL3 := Lib.hid (HL2.out.trans (FLeft.of_net P2 HI2.out q6))
    have H1 := Lib.hid q1
    have H3 := Lib.hid q3
    have H4 := Lib.hid q4
    have H5 := Lib.hid q5
    clear e0 e1 e2 e3 e4 q1 q3 q4 q5 q6 HWR
    cases c with
    | succ c =>
      have hTn := HQ.out.2 (by simp)
      subst hTn
      have HG : Hid (GotH p NA HA w0 w nb hb S Sh Rh (fetchF (l.map Ru.q) ⟨n, u, k, g, m⟩ h s) (.returned (.tuple #[.slice none 0 0, .slice al ls.length cl, errV p (c + 1)])) w3) :=
        GotH.of (by rw [HF.out, if_neg (by simp)]) (fun h => absurd rfl h) (Nat.le_refl _) (NewL.none _) (fun h => absurd rfl h) (H5.out.mono HZ2.out.1) HL3.out
      rw [errV_some p (Nat.succ_ne_zero c)] at HG ⊢
      go_wp2
      go_ret3
      exact HG.out
    | zero =>
      obtain ⟨ht1, ht2, ht3⟩ := HQ.out.1 rfl
      have hsm := tree_small ht1
      rw [errV_zero]
      clear ht2 ht3
      go_wp2_with fail
      refine (P2.put _ hb Sh Rh h T a3 c3 HI3.out.held.held (HE.out.below HI3.out.held.below).held HI3.out.held.ok H1.out q2 (H3.out.empty H1.out) hsm (fun hne b o t e hS => by
        have h1 := H3.out.new hne b o t e
        have h2 := P2.lt HI2.out.held.held b (.inl hS)
        omega)).mono ?_
      rintro e w4 ⟨⟨v, rfl, hv⟩, S4, R4, l4⟩
      have HL4 := Lib.hid (HL3.out.trans (FLeft.of_held P HI3.out l4 (HI3.out.held.ok.put T)))
      have HG : Hid (GotH p NA HA w0 w nb hb S Sh Rh (fetchF (l.map Ru.q) ⟨n, u, k, g, m⟩ h s) (.returned (.tuple #[.slice a3 T.length c3, .slice al ls.length cl, .nilIface])) w4) := by
        have hfe : fetchF (l.map Ru.q) ⟨n, u, k, g, m⟩ h s = ((putH h T).1, s3, T, ls, 0, -1) := by rw [HF.out]; simp
        refine GotH.of (p := p) hfe (lies_left H1.out l4.kept fun hne b o t e hS => ?_) q2 (H3.out.mono HZ2.out.1) (fun hne b o t e hS => ?_) ((owns_kept H5.out fun g' e => l4.kept.block g' (H5.out.lt g' e).2 fun hS => ?_).mono HZ2.out.1) HL4.out
        · have h1 := H3.out.new hne b o t e
          have h2 := P2.lt HI2.out.held.held b (.inl hS)
          omega
        · rcases hS with hS | hS
          · exact H4.out hne b o t e hS
          · obtain ⟨j, y, hc⟩ := lies_cell H1.out hne e
            have hlt := block_lt_of_cell hc
            rcases l4.own b hS with h1 | h1
            · have h3 := H3.out.new hne b o t e
              have h2 := P2.lt HI2.out.held.held b (.inl h1)
              omega
            · simp at hlt
              omega
        · have h1 := (H5.out.lt g' e).1
          have h2 := P2.lt HI2.out.held.held g' (.inl hS)
          omega
      clear hv l4 hsm ht1
      go_wp2
      go_ret3
      exact HG.out
end Go.Proofs.YtmcfkoenpikldaaGreatDoor
/-
  A net beside what else stands, for the acts on it; what the acts, and the ways, leave of it; a net and what is held, new: over this seat's translation.
-/
namespace Go.Proofs.YtmcfkoenpikldaaGreatDoor
open Go.RowKit Go.Shelf

/-- What stands, where others write. -/
structure Still (Q : World → Prop) (G : Nat → Prop) : Prop where
  lt : ∀ {w b}, Q w → G b → b < w.heap.size
  keep : ∀ {w w'} {T : Nat → Prop}, Q w → Kept T w w' → (∀ b, G b → ¬ T b) → Q w'
/-- A net, and what else stands apart from it, as one. -/
def WithQ (NA : NetIs) (Q : World → Prop) (G : Nat → Prop) : NetIs := fun W nb S s => ∃ S0, NA W nb S0 s ∧ Q W ∧ (∀ b, S b ↔ S0 b ∨ G b) ∧ ∀ b, S0 b → ¬ G b
section
variable {p : Nat → Addr} {NA : NetIs} {Q : World → Prop} {G : Nat → Prop}
theorem WithQ.left {w w' : World} {nb : Nat} {S S0 S0' : Nat → Prop} {s' : Ns} (st : Still Q G) (h2 : Q w) (h3 : ∀ b, S b ↔ S0 b ∨ G b) (h4 : ∀ b, S0 b → ¬ G b) (l : ProgLeft NA w nb S0 s' w' S0') : ProgLeft (WithQ NA Q G) w nb S s' w' (fun b => S0' b ∨ G b) :=
  ⟨⟨S0', l.net, st.keep h2 l.kept (fun b hb hs => h4 b hs hb), fun _ => Iff.rfl, fun b hb hs => (l.own b hb).elim (fun e => h4 b e hs) (fun e => by have := st.lt h2 hs; omega)⟩,
    fun B hB hS => l.below B hB fun b hb => hS b ((h3 b).2 (.inl hb)), l.kept.more fun b _ hb => (h3 b).2 (.inl hb),
    fun b hb => hb.elim (fun e => (l.own b e).imp (fun e => (h3 b).2 (.inl e)) id) (fun e => .inl ((h3 b).2 (.inr e)))⟩
theorem withQ (P : NetActs p NA) (st : Still Q G) : NetActs p (WithQ NA Q G) where
  lt := fun h b hb => by
    obtain ⟨_, h1, h2, h3, _⟩ := h
    exact ((h3 b).1 hb).elim (P.lt h1 b) (st.lt h2)
  keep := fun h hk hT => by
    obtain ⟨S0, h1, h2, h3, h4⟩ := h
    exact ⟨S0, P.keep h1 hk fun b hb => hT b ((h3 b).2 (.inl hb)), st.keep h2 hk fun b hb => hT b ((h3 b).2 (.inr hb)), h3, h4⟩
  put := fun w nb _ s u t h hE hl hu ht => by
    obtain ⟨S0, h1, h2, h3, h4⟩ := h
    exact (P.put w nb S0 s u t h1 hE hl hu ht).mono fun _ _ ⟨he, _, l⟩ => ⟨he, _, WithQ.left st h2 h3 h4 l⟩
  host := fun w nb _ s u on h hE hl hu => by
    obtain ⟨S0, h1, h2, h3, h4⟩ := h
    exact (P.host w nb S0 s u on h1 hE hl hu).mono fun _ _ ⟨he, _, l⟩ => ⟨he, _, WithQ.left st h2 h3 h4 l⟩
  cut := fun w nb _ s u k h hE hu => by
    obtain ⟨S0, h1, h2, h3, h4⟩ := h
    exact (P.cut w nb S0 s u k h1 hE hu).mono fun _ _ ⟨he, _, l⟩ => ⟨he, _, WithQ.left st h2 h3 h4 l⟩
  get := fun w nb _ s u h hE hc hu => by
    obtain ⟨S0, h1, h2, h3, h4⟩ := h
    exact (P.get w nb S0 s u h1 hE hc hu).mono fun _ _ ⟨he, _, l⟩ => ⟨he, _, WithQ.left st h2 h3 h4 l⟩
  calls := fun w nb _ s h => by
    obtain ⟨S0, h1, _, _, _⟩ := h
    exact P.calls w nb S0 s h1
end
theorem heldStill {p : Nat → Addr} {HA : HeldIs} (P2 : HeldCore p HA) (hb : Nat) (Sh Rh : Nat → Prop) (h : Hs) : Still (fun W => HA W hb Sh Rh h) (fun b => Sh b ∨ Rh b) :=
  ⟨fun h hb => P2.lt h _ hb, fun h hk hT => P2.keep h hk hT⟩

/-- A net, and what is held, new behind it. -/
theorem InF.new {p : Nat → Addr} {NA : NetIs} {HA : HeldIs} {w0 w w1 : World} {nb hb : Nat} {S Sh Rh : Nat → Prop} {s : Ns} {h : Hs} (P : NetActs p NA) (i : InN NA w0 w nb S s) (hh : HA w1 hb Sh Rh h) (hs : ∀ b, Sh b ∨ Rh b → w.heap.size ≤ b) (hq : Below w.heap.size w w1) (ok : OkH h) : InF NA HA w0 w1 nb hb S Sh Rh s h :=
  ⟨i.quiet P hq, ⟨(i.quiet P hq).below, hh, fun b hb => Nat.le_trans i.below.size (hs b hb), ok⟩, fun b hb he => by
    have h1 := hs b he
    have h2 := P.lt i.net b hb
    omega⟩

/-- Behind an act each text is as long as one that was put. -/
theorem act_texts {s : Ns} {a : Ac} {m : Nat} (h : ∀ x ∈ s.l, x.t.length ≤ m) (ha : a.s.length ≤ m) : ∀ x ∈ (actN s a).l, x.t.length ≤ m := by
  unfold actN
  split
  · unfold putN
    split
    · exact h
    · split
      · exact h
      · split
        · intro x hx
          rcases List.mem_or_eq_of_mem_set hx with hx | rfl
          · exact h x hx
          · exact ha
        · split
          · exact h
          · intro x hx
            rcases List.mem_append.1 hx with hx | hx
            · exact h x hx
            · obtain rfl := List.mem_singleton.1 hx
              exact ha
  split
  · unfold hostN
    split
    · exact h
    · exact h
  split
  · unfold cutN
    split
    · exact h
    · split
      · exact h
      · intro x hx
        rename_i i _ _
        obtain ⟨j, hj, rfl⟩ := List.getElem_of_mem hx
        have hj' : j < s.l.length := by simpa using hj
        have hx' := h (s.l[j]'hj') (List.getElem_mem hj')
        simp only [List.getElem_modify]
        split
        · exact hx'
        · exact hx'
  · rw [(get_same s a.u).1]
    exact h
/-- Behind the ways the net's texts are what they were, and it was asked some times more. -/
theorem ways_same (x : Wt) : ∀ (r : List (List UInt8)) (s : Ns) (c : Nat), (waysF x s r c).1.l = s.l ∧ (waysF x s r c).1.off = s.off ∧ (waysF x s r c).1.calls ≤ s.calls + r.length
  | [], s, c => ⟨rfl, rfl, Nat.le_refl _⟩
  | u :: r, s, c => by
    have h := get_same s u
    rw [waysF]
    split
    · rw [way_same]
      exact ⟨h.1, h.2.1, by have := h.2.2.2; simp; omega⟩
    · have ih := ways_same x r (wayF x s u).1 (wayF x s u).2.2
      rw [way_same] at ih ⊢
      exact ⟨ih.1.trans h.1, ih.2.1.trans h.2.1, by have := ih.2.2; have := h.2.2.2; simp; omega⟩
/-- What a call that fetches leaves of the net. -/
theorem fetch_same {l : List Q} {x : Wt} {h : Hs} {s : Ns} : (fetchF l x h s).2.1.l = s.l ∧ (fetchF l x h s).2.1.off = s.off ∧ (fetchF l x h s).2.1.calls ≤ s.calls + 9 := by
  unfold fetchF
  split
  · exact ⟨rfl, rfl, Nat.le_add_right _ _⟩
  · rename_i ha
    have ha0 : (askF l x).1 = 0 := by omega
    split
    · exact ⟨rfl, rfl, Nat.le_add_right _ _⟩
    · rw [try_ways ha0 rfl]
      have h1 := ways_same x (waysL (closestQ x.u l) x.u) s 0
      have h2 := ways_few (ask_zero ha0).1 x.u
      exact ⟨h1.1, h1.2.1, by have := h1.2.2; show (waysF x s (waysL (closestQ x.u l) x.u) 0).1.calls ≤ s.calls + 9; omega⟩
end Go.Proofs.YtmcfkoenpikldaaGreatDoor
