/-
  What is grafted is under its place, and all else as it was; what is put is there once; what is dropped is not; a tree below a place, stripped by as much, is the tree: facts on lists of files. No Go text is spoken of here.
-/
import Derived.Test.YtkcjgncpcidfoaaDoorTreeSort
namespace Go.Proofs.YtkcjgncpcidfoaaDoor

theorem clean_self {s : List UInt8} (h : checkCode s = 0) : Clean s s (pieces s) := by
  obtain ⟨hp, hl⟩ := checkCode_zero.1 h
  refine ⟨?_, cleanF_keep hp, hp, hl, (join_pieces s).symm⟩
  have := head_join hp
  rwa [join_pieces] at this

theorem join_zero {d s : List UInt8} (hd : checkCode d = 0) (hs : checkCode s = 0) (h : (cleanL (joinTo d s)).2 = 0) : (cleanL (joinTo d s)).1 = d ++ 47 :: s ∧ checkCode (d ++ 47 :: s) = 0 := by
  have hj : joinTo d s = d ++ 47 :: s := by simp [joinTo, path_ne hd]
  have hb := join_below hd (clean_self hs) (path_ne hs)
  rw [hj] at h ⊢
  by_cases hl : 6 < (pieces d).length + (pieces s).length
  · rw [if_pos hl] at hb
    rw [hb] at h
    cases h
  · rw [if_neg hl] at hb
    rw [hb]
    exact ⟨rfl, joined_path hd (clean_self hs) (path_ne hs) (by omega)⟩

def below (d : List UInt8) (f : F) : F := { f with p := d ++ 47 :: f.p }

theorem isIn_below {d s : List UInt8} (h : checkCode (d ++ 47 :: s) = 0) : isIn (d ++ 47 :: s) d = true := by
  have : d ++ 47 :: s = (d ++ [47]) ++ s := by simp
  simp only [isIn, h, decide_true, Bool.true_and, Bool.or_eq_true]
  right
  rw [this]
  exact hasPrefix_app _ _

theorem cutF_below {d : List UInt8} (f : F) (hd : d ≠ []) : cutF d (below d f) = f := by
  have : (d ++ 47 :: f.p).drop (d.length + 1) = f.p := by
    rw [List.drop_append]
    simp [Nat.add_sub_cancel_left]
  simp [cutF, below, hd, this]

theorem below_rise {l : List F} (d : List UInt8) (h : Rise l) : Rise (l.map (below d)) := by
  refine List.pairwise_map.2 (h.imp fun h => ?_)
  show less (d ++ 47 :: _) (d ++ 47 :: _) = true
  rw [less_below, ← h]
  simp [less, Op.bytesLess]

theorem eq_of_rise {s t : List F} (hp : s.Perm t) (hs : Rise s) (ht : Rise t) : s = t :=
  sort_unique (l := t) hp (List.Perm.refl _) hs.weak ht.weak (rise_nodup ht)

structure Grafted (l : List F) (d : List UInt8) (m t : List F) : Prop where
  dir : checkCode d = 0
  perm : t.Perm (l ++ m.map (below d))
  rise : Rise t
  tree : (treeFault t).1 = 0
  paths : ∀ f ∈ m, checkCode (d ++ 47 :: f.p) = 0

theorem joinAll_zero {d : List UInt8} {m : List F} (hd : checkCode d = 0) (hm : ∀ f ∈ m, Right f) (h : (joinAll d m).2.1 = 0) : (joinAll d m).1 = m.map (below d) ∧ ∀ f ∈ m, checkCode (d ++ 47 :: f.p) = 0 := by
  have hz := mapPaths_zero _ m 0 h
  have ha := mapPaths_all (fun s => cleanL (joinTo d s)) m 0 hz
  have hj : ∀ f ∈ m, (cleanL (joinTo d f.p)).1 = d ++ 47 :: f.p ∧ checkCode (d ++ 47 :: f.p) = 0 := fun f hf => join_zero hd (hm f hf).1 (hz f hf)
  refine ⟨?_, fun f hf => (hj f hf).2⟩
  unfold joinAll
  rw [ha]
  exact List.map_congr_left fun f hf => by simp only [below, (hj f hf).1]

theorem sortT_zero {l : List F} (h : (sortT l).2.1 = 0) : (sortT l).1 = sortF l ∧ (l.map (·.p)).Nodup ∧ (treeFault (sortF l)).1 = 0 := by
  unfold sortT at h ⊢
  by_cases hn : (l.map (·.p)).Nodup
  · rw [if_pos hn] at h ⊢
    by_cases ht : (treeFault (sortF l)).1 = 0
    · rw [if_pos ht] at h ⊢
      exact ⟨rfl, hn, ht⟩
    · rw [if_neg ht] at h
      exact absurd h ht
  · rw [if_neg hn] at h
    cases h

theorem graft_zero {l m : List F} {d : List UInt8} (h : (graftT l d m).2.1 = 0) : (treeFault l).1 = 0 ∧ (treeFault m).1 = 0 ∧ Grafted l d m (graftT l d m).1 := by
  unfold graftT at h ⊢
  by_cases h1 : (treeFault l).1 = 0
  · by_cases h2 : (treeFault m).1 = 0
    · by_cases h3 : checkCode d = 0
      · by_cases h4 : (joinAll d m).2.1 = 0
        · rw [if_neg (by simp [h1]), if_neg (by simp [h2]), if_neg (by simp [h3]), if_neg (by simp [h4])] at h ⊢
          obtain ⟨e, hn, ht⟩ := sortT_zero h
          have hg := (tree_good.1 h2).1
          obtain ⟨hj, hpp⟩ := joinAll_zero h3 hg.right h4
          refine ⟨h1, h2, h3, ?_, ?_, ?_, hpp⟩
          · show (sortT _).1.Perm _
            rw [e, ← hj]
            exact sortF_perm _
          · show Rise (sortT _).1
            rw [e]
            exact (tree_good.1 ht).1.rise
          · show (treeFault (sortT _).1).1 = 0
            rw [e]
            exact ht
        · rw [if_neg (by simp [h1]), if_neg (by simp [h2]), if_neg (by simp [h3]), if_pos h4] at h
          exact absurd h h4
      · rw [if_neg (by simp [h1]), if_neg (by simp [h2]), if_pos h3] at h
        exact absurd h h3
    · rw [if_neg (by simp [h1]), if_pos h2] at h
      exact absurd h h2
  · rw [if_pos h1] at h
    exact absurd h h1

theorem graft_bad {l m : List F} {d : List UInt8} (h : (graftT l d m).2.1 ≠ 0) : (graftT l d m).1 = [] := by
  unfold graftT at h ⊢
  split
  · rfl
  · split
    · rfl
    · split
      · rfl
      · split
        · rfl
        · rename_i h1 h2 h3 h4
          rw [if_neg h1, if_neg h2, if_neg h3, if_neg h4] at h
          unfold sortT at h ⊢
          dsimp only at h ⊢
          split
          · split
            · rename_i h5 h6
              rw [if_pos h5, if_pos h6] at h
              exact absurd rfl h
            · rfl
          · rfl

theorem filter_below {d : List UInt8} {m : List F} (h : ∀ f ∈ m, checkCode (d ++ 47 :: f.p) = 0) : (m.map (below d)).filter (fun f => isIn f.p d) = m.map (below d) := by
  rw [List.filter_eq_self]
  intro g hg
  obtain ⟨f, hf, rfl⟩ := List.mem_map.1 hg
  exact isIn_below (h f hf)

theorem Grafted.length {l m t : List F} {d : List UInt8} (G : Grafted l d m t) : t.length = l.length + m.length := by
  have := G.perm.length_eq
  simpa using this

theorem Grafted.under {l m t : List F} {d : List UInt8} (G : Grafted l d m t) : (underL t d).length = (underL l d).length + m.length := by
  have := (G.perm.filter (fun f => isIn f.p d)).length_eq
  rw [List.filter_append, filter_below G.paths] at this
  simpa [underL] using this

theorem map_cut {d : List UInt8} (m : List F) (hd : d ≠ []) : (m.map (below d)).map (cutF d) = m := by
  rw [List.map_map]
  have : (cutF d ∘ below d) = id := by
    funext f
    exact cutF_below f hd
  rw [this, List.map_id]

/-- What is grafted is under its place. -/
theorem Grafted.here {l m t : List F} {d : List UInt8} (G : Grafted l d m t) (hm : Rise m) (hl : underL l d = []) : underL t d = m := by
  have h0 : l.filter (fun f => isIn f.p d) = [] := by simpa [underL] using hl
  have hp := G.perm.filter (fun f => isIn f.p d)
  rw [List.filter_append, filter_below G.paths, h0, List.nil_append] at hp
  have := eq_of_rise hp (G.rise.filter _) (below_rise d hm)
  unfold underL
  rw [this, map_cut m (path_ne G.dir)]

theorem without_with (l : List F) (x : F) : without (withF l x) x.p = without l x.p := by
  have e : l = l.takeWhile (fun f => less f.p x.p) ++ l.dropWhile (fun f => less f.p x.p) := List.takeWhile_append_dropWhile.symm
  have hb : ∀ D : List F, without (behind x.p D) x.p = without D x.p := fun D => by
    cases D with
    | nil => rfl
    | cons g r =>
      by_cases hg : g.p = x.p
      · simp [behind, hg, without]
      · simp [behind, hg]
  conv => rhs; rw [e]
  have := hb (l.dropWhile (fun f => less f.p x.p))
  simp only [without] at this ⊢
  simp only [withF, List.filter_append, List.filter_cons, beq_self_eq_true, Bool.not_true, Bool.false_eq_true, if_false, this]

theorem mem_with (l : List F) (x : F) : x ∈ withF l x := by simp [withF]

theorem length_without : ∀ {l : List F} {x : F}, (l.map (·.p)).Nodup → x ∈ l → (without l x.p).length + 1 = l.length
  | [], _, _, h => by simp at h
  | g :: r, x, hn, h => by
    simp only [List.map_cons, List.nodup_cons] at hn
    rcases List.mem_cons.1 h with rfl | h
    · have : without r x.p = r := by
        simp only [without, List.filter_eq_self, Bool.not_eq_true', beq_eq_false_iff_ne]
        intro f hf e
        exact hn.1 (by rw [← e]; exact List.mem_map_of_mem hf)
      simp only [without] at this
      simp [without, this]
    · have hne : ¬ g.p = x.p := fun e => hn.1 (by rw [e]; exact List.mem_map_of_mem h)
      have ih := length_without hn.2 h
      simp only [without] at ih
      simp [without, hne, ih]

theorem without_twice (l : List F) (q : List UInt8) : without (without l q) q = without l q := by simp [without]

theorem without_all {l : List F} {q : List UInt8} (h : (without l q).length = l.length) : without l q = l :=
  List.filter_sublist.eq_of_length h

theorem put_zero {l : List F} {x : F} (h : (putT l x).2.1 = 0) : (treeFault l).1 = 0 ∧ (putT l x).1 = withF l x ∧ (treeFault (withF l x)).1 = 0 := by
  unfold putT at h ⊢
  by_cases h1 : (treeFault l).1 = 0
  · rw [if_neg (by simp [h1])] at h ⊢
    by_cases h2 : (treeFault (withF l x)).1 = 0
    · rw [if_neg (by simp [h2])]
      exact ⟨h1, rfl, h2⟩
    · rw [if_pos h2] at h
      exact absurd h h2
  · rw [if_pos h1] at h
    exact absurd h h1

theorem put_bad {l : List F} {x : F} (h : (putT l x).2.1 ≠ 0) : (putT l x).1 = [] := by
  unfold putT at h ⊢
  split
  · rfl
  · rename_i h1
    rw [if_neg h1] at h
    split
    · rfl
    · rename_i h2
      rw [if_neg h2] at h
      exact absurd rfl h

/-- A path taken off again. -/
theorem strip_below {a s : List UInt8} (h : checkCode (a ++ 47 :: s) = 0) : stripL (a ++ 47 :: s) ((pieces a).length : Nat) = (s, 0) := by
  unfold stripL
  rw [if_neg (by simp [h]), if_neg (by omega), pieces_app, List.length_append]
  have := List.length_pos_iff.2 (pieces_ne s)
  rw [if_neg (by omega), Int.toNat_natCast, List.drop_left, join_pieces]

theorem stripAll_below {a : List UInt8} {m : List F} (h : ∀ f ∈ m, checkCode (a ++ 47 :: f.p) = 0) : stripAll ((pieces a).length : Nat) (m.map (below a)) = (m, 0, 0) := by
  have hz : ∀ f ∈ m.map (below a), (stripL f.p ((pieces a).length : Nat)).2 = 0 := fun g hg => by
    obtain ⟨f, hf, rfl⟩ := List.mem_map.1 hg
    show (stripL (a ++ 47 :: f.p) _).2 = 0
    rw [strip_below (h f hf)]
  unfold stripAll
  rw [mapPaths_all _ _ 0 hz, List.map_map]
  have : ∀ f ∈ m, ((fun f : F => ({ f with p := (stripL f.p ((pieces a).length : Nat)).1 } : F)) ∘ below a) f = id f := fun f hf => by
    show ({ p := (stripL (a ++ 47 :: f.p) _).1, r := f.r, t := f.t } : F) = f
    rw [strip_below (h f hf)]
  rw [List.map_congr_left this, List.map_id]

theorem sortT_tree {l : List F} (h : (treeFault l).1 = 0) : sortT l = (l, 0, -1) := by
  have g := (tree_good.1 h).1.rise
  exact sortT_ok (List.Perm.refl _) g.weak (rise_nodup g) h

/-- A tree below a place alone. -/
theorem Grafted.alone {m t : List F} {d : List UInt8} (G : Grafted [] d m t) (hm : Rise m) : t = m.map (below d) :=
  eq_of_rise (by simpa using G.perm) G.rise (below_rise d hm)

theorem strip_grafted {a : List UInt8} {m t : List F} (G : Grafted [] a m t) (hm : (treeFault m).1 = 0) : stripT t ((pieces a).length : Nat) = (m, 0, -1) := by
  have e := G.alone (tree_good.1 hm).1.rise
  have ht := G.tree
  have hs := stripAll_below G.paths
  unfold stripT
  rw [if_neg (by simp [ht]), e, hs, if_neg (by simp), sortT_tree hm]

theorem prefix_in {a b : List UInt8} (hb : checkCode b = 0) (h : a ++ [47] <+: b) : isIn b a = true := by
  simp only [isIn, hb, decide_true, Bool.true_and, Bool.or_eq_true]
  right
  simpa [Lib.hasPrefix] using h

/-- Two places, neither in the other. -/
theorem not_in {a b s : List UInt8} (ha : checkCode a = 0) (hb : checkCode b = 0) (hne : a ≠ b) (h1 : isIn a b = false) (h2 : isIn b a = false) : isIn (b ++ 47 :: s) a = false := by
  cases h : isIn (b ++ 47 :: s) a with
  | false => rfl
  | true =>
    simp only [isIn, Bool.and_eq_true, Bool.or_eq_true] at h
    rcases h.2 with h | h
    · exact absurd (List.isEmpty_iff.1 h) (path_ne ha)
    · have p1 : a ++ [47] <+: b ++ 47 :: s := by simpa [Lib.hasPrefix] using h
      have p2 : b ++ [47] <+: b ++ 47 :: s := ⟨s, by simp⟩
      rcases List.prefix_or_prefix_of_prefix p1 p2 with p | p
      · rcases List.prefix_concat_iff.1 p with e | p
        · exact absurd (List.append_cancel_right e) hne
        · rw [prefix_in hb p] at h2; cases h2
      · rcases List.prefix_concat_iff.1 p with e | p
        · exact absurd (List.append_cancel_right e).symm hne
        · rw [prefix_in ha p] at h1; cases h1

theorem filter_off {a b : List UInt8} {m : List F} (ha : checkCode a = 0) (hb : checkCode b = 0) (hne : a ≠ b) (h1 : isIn a b = false) (h2 : isIn b a = false) : (m.map (below b)).filter (fun f => isIn f.p a) = [] := by
  rw [List.filter_eq_nil_iff]
  intro g hg
  obtain ⟨f, hf, rfl⟩ := List.mem_map.1 hg
  have := not_in (s := f.p) ha hb hne h1 h2
  simp [below, this]

/-- Two trees at two places are each under its own. -/
theorem two_places {a b : List UInt8} {l m x z : List F} (G : Grafted [] a l x) (H : Grafted x b m z) (hl : Rise l) (hm : Rise m) (hne : a ≠ b) (h1 : isIn a b = false) (h2 : isIn b a = false) :
    underL z a = l ∧ underL z b = m := by
  have e := G.alone hl
  subst e
  constructor
  · have hp := H.perm.filter (fun f => isIn f.p a)
    rw [List.filter_append, filter_below G.paths, filter_off G.dir H.dir hne h1 h2, List.append_nil] at hp
    have := eq_of_rise hp (H.rise.filter _) (below_rise a hl)
    unfold underL
    rw [this, map_cut l (path_ne G.dir)]
  · refine H.here hm ?_
    have : (l.map (below a)).filter (fun f => isIn f.p b) = [] := filter_off H.dir G.dir (Ne.symm hne) h2 h1
    simp [underL, this]

end Go.Proofs.YtkcjgncpcidfoaaDoor
