/-
  What the law HeldDrops keeps beside what is held: numbers, a row of its own, files: they stay where a call on what is held writes; this seat's translation.
-/
import Derived.Test.YtcnejkbbheihiaaDoorHeldProg
import Derived.Test.YtcnejkbbheihiaaDoorSumTreeHeldPureHeldFacts
namespace Go.Proofs.YtcnejkbbheihiaaDoor
open Go.RowKit Go.Shelf

structure OurI (W : World) (S : Nat → Prop) (a : Option Addr) (l : List Int) : Prop where
  ints : IntsAt W a l
  far : ∀ b o, a = some ⟨b, o, none⟩ → b < W.heap.size ∧ ¬ S b
structure OurR (B : Nat) (W : World) (S R : Nat → Prop) (v : Value) (n : Nat) (l : List Int) : Prop where
  row : W.ownsRow B 3 1 v n (l.map iv)
  far : ∀ g, v.ownBlock = some g → ¬ (S g ∨ R g)
structure OurF (W : World) (S : Nat → Prop) (a : Option Addr) (c : Nat) (l : List F) : Prop where
  lies : LiesAt W a l
  cap : l.length ≤ c
  nil : a = none → c = 0 ∧ l = []
  far : ∀ b o t, a = some ⟨b, o, t⟩ → b < W.heap.size ∧ ¬ S b

section
variable {At : HeldIs} {W W' : World} {nb : Nat} {S R S' R' : Nat → Prop} {s' : Hs}
theorem own_far (k : HeldLeft At W nb S R s' W' S' R') {b : Nat} (hb : b < W.heap.size) (hn : ¬ S b) : ¬ S' b := fun h => (k.own b h).elim hn (fun e => by omega)
theorem OurI.below {a : Option Addr} {l : List Int} (h : OurI W S a l) (hb : Below W.heap.size W W') : OurI W' S a l :=
  ⟨h.ints.below hb, fun b o e => ⟨Nat.lt_of_lt_of_le (h.far b o e).1 hb.size, (h.far b o e).2⟩⟩
theorem OurI.left {a : Option Addr} {l : List Int} (h : OurI W S a l) (k : HeldLeft At W nb S R s' W' S' R') : OurI W' S' a l := by
  refine ⟨fun hl => ?_, fun b o e => ⟨Nat.lt_of_lt_of_le (h.far b o e).1 k.kept.size, own_far k (h.far b o e).1 (h.far b o e).2⟩⟩
  obtain ⟨b, o, e, hc⟩ := h.ints hl
  have hb := k.kept.block b (h.far b o e).1 (h.far b o e).2
  exact ⟨b, o, e, fun j hj => (by simp [World.cell?, hb] : W'.cell? ⟨b, o + j, none⟩ = W.cell? ⟨b, o + j, none⟩).trans (hc j hj)⟩
theorem OurR.below {B : Nat} {v : Value} {n : Nat} {l : List Int} (h : OurR B W S R v n l) (hb : Below W.heap.size W W') : OurR B W' S R v n l := ⟨owns_below h.row hb, h.far⟩
theorem own_far2 (k : HeldLeft At W nb S R s' W' S' R') {b : Nat} (hb : b < W.heap.size) (hn : ¬ (S b ∨ R b)) : ¬ (S' b ∨ R' b) := by
  rintro (h | h)
  · exact (k.own b h).elim (fun e => hn (.inl e)) (fun e => by omega)
  · rcases k.ownR b h with e | e | e
    · exact hn (.inl e)
    · exact hn (.inr e)
    · omega
theorem OurR.left {B : Nat} {v : Value} {n : Nat} {l : List Int} (h : OurR B W S R v n l) (k : HeldLeft At W nb S R s' W' S' R') : OurR B W' S' R' v n l :=
  ⟨owns_kept h.row fun g hg => k.kept.block g (h.row.lt g hg).2 (fun e => h.far g hg (.inl e)), fun g hg => own_far2 k (h.row.lt g hg).2 (h.far g hg)⟩
theorem OurF.below {a : Option Addr} {c : Nat} {l : List F} (h : OurF W S a c l) (hb : Below W.heap.size W W') : OurF W' S a c l :=
  ⟨h.lies.below hb, h.cap, h.nil, fun b o t e => ⟨Nat.lt_of_lt_of_le (h.far b o t e).1 hb.size, (h.far b o t e).2⟩⟩
theorem OurF.left {a : Option Addr} {c : Nat} {l : List F} (h : OurF W S a c l) (k : HeldLeft At W nb S R s' W' S' R') : OurF W' S' a c l :=
  ⟨lies_left h.lies k.kept fun _ b o t e => (h.far b o t e).2, h.cap, h.nil, fun b o t e => ⟨Nat.lt_of_lt_of_le (h.far b o t e).1 k.kept.size, own_far k (h.far b o t e).1 (h.far b o t e).2⟩⟩
theorem OurF.new {p : Nat → Addr} {s : Hs} {a : Option Addr} {c : Nat} {l : List F} (P : HeldProg p At) (h : At W nb S R s) (n : NewFiles W W' a c l) : OurF W' S a c l :=
  ⟨n.lies, n.cap, n.nil, fun b o t e => ⟨(n.new b o t e).2, fun hS => by have := P.lt h b (.inl hS); have := (n.new b o t e).1; omega⟩⟩
/-- A row that is new, as numbers. -/
theorem OurI.new {p : Nat → Addr} {s : Hs} {v : Value} {l : List Int} (P : HeldProg p At) (h : At W nb S R s) (ho : W'.ownsRow W.heap.size 3 1 v l.length (l.map iv)) : ∃ a c, v = .slice a l.length c ∧ OurI W' S a l ∧ l.length ≤ c := by
  obtain ⟨a, c, e, hi, hc, _, hf⟩ := ints_of_row ho
  refine ⟨a, c, e, ⟨hi, fun b o e => ?_⟩, hc⟩
  obtain ⟨_, h1, h2⟩ := hf b o e
  exact ⟨h2, fun hS => by have := P.lt h b (.inl hS); omega⟩
/-- A row of one's own, as numbers. -/
theorem OurR.ints {B : Nat} {v : Value} {n : Nat} {l : List Int} (h : OurR B W S R v n l) : ∃ a c, v = .slice a n c ∧ IntsAt W a l := by
  have hn : l.length = n := by have := h.row.1; simpa using this
  subst hn
  obtain ⟨a, c, e, hi, _⟩ := ints_of_row h.row
  exact ⟨a, c, e, hi⟩
end
/-- A number alone, in memory that is new. -/
theorem one_cell (w : World) (n : Int) (T : TypeId) : ∀ j u, [Value.int .i64 n][j]? = some u → (w.alloc (.cells #[.int .i64 n] T)).cell? ((⟨w.heap.size, 0, none⟩ : Addr).add j) = some u := by
  intro j u h
  have hn := heap_new w (.cells #[.int .i64 n] T)
  rcases j with _ | j
  · rw [Addr.add_lit]
    unfold World.cell?
    rw [hn]
    exact h
  · simp at h

/-- What the law meets, when the tree at a place is dropped, and put again. -/
theorem drop_facts {s : Hs} (h : OkH s) {k : Nat} (hk : k < s.l.length) : ∃ (s1 s3 : Hs) (yn : Nat) (yl : List F) (us : List Int), (s.l.map fun x => (x.n : Int))[k]? = some (yn : Int) ∧ (Lit.int .i64 (yn : Int)).wf = true ∧ Small yl ∧ getH s (yn : Int) = (yl, 0) ∧ dropH s (yn : Int) = (s1, 0) ∧ OkH s1 ∧
    dropH s1 (yn : Int) = (s1, 6) ∧ getH s1 (yn : Int) = ([], 6) ∧ putH s1 yl = (s3, yn, 0, -1) ∧ us = (s.l.map fun x => (x.n : Int)).take k ++ (s.l.map fun x => (x.n : Int)).drop (k + 1) ∧ (s1.l.map fun x => (x.n : Int)) = us ∧ (s3.l.map fun x => (x.n : Int)) = us ++ [(yn : Int)] ∧ s1.l.length + 1 = s.l.length ∧
    ∀ j (hj : j < us.length), (Lit.int .i64 us[j]).wf = true ∧ (getH s1 us[j]).2 = 0 := by
  have hx := List.getElem_mem hk
  have hok1 := ok_erased h hk
  have he := erased_gone h hk
  refine ⟨{ s with l := s.l.eraseIdx k }, { s with l := s.l.eraseIdx k ++ [s.l[k]] }, s.l[k].n, s.l[k].l, _, by simp [hk], h.fit hx, tree_small (h.right _ hx).1, getH_at h hk, drop_at h hk, hok1, dropH_none he, getH_none he, put_again h hk, rfl, erased_sums (s := s) k, ?_, ?_, fun j hj => ?_⟩
  · show List.map _ (s.l.eraseIdx k ++ [s.l[k]]) = _
    rw [List.map_append, erased_sums (s := s) k]
    rfl
  · show (s.l.eraseIdx k).length + 1 = _
    rw [List.length_eraseIdx_of_lt hk]
    omega
  · have e := erased_sums (s := s) k
    have hj' : j < (s.l.eraseIdx k).length := by
      have := congrArg List.length e
      rw [List.length_map] at this
      omega
    have hg : ((s.l.map fun x => (x.n : Int)).take k ++ (s.l.map fun x => (x.n : Int)).drop (k + 1))[j] = (((s.l.eraseIdx k)[j]).n : Int) := by
      have : ((s.l.eraseIdx k).map fun x => (x.n : Int))[j]'(by rw [List.length_map]; exact hj') = (((s.l.eraseIdx k)[j]).n : Int) := by simp
      rw [← this]
      congr 1
      exact e.symm
    rw [hg]
    have hgat := getH_at (s := { s with l := s.l.eraseIdx k }) hok1 (k := j) hj'
    exact ⟨hok1.fit (List.getElem_mem hj'), by rw [hgat]⟩
end Go.Proofs.YtcnejkbbheihiaaDoor
