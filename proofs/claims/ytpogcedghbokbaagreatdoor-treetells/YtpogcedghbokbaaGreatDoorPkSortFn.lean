/-
  Package slices' SortFunc of files by their paths: over this seat's translation.
-/
import Derived.Test.YtpogcedghbokbaaGreatDoorPkClone
import Derived.Test.YtpogcedghbokbaaGreatDoorPkFind
import Derived.Test.YtpogcedghbokbaaGreatDoorShelf2
namespace Go.Proofs.YtpogcedghbokbaaGreatDoor
open Go.RowKit Go.Shelf Go.Sort Go.Lib

abbrev cfF (x y : F) : Int := Lib.compareBytes x.p y.p

theorem ltOf_less (x y : F) : ltOf cfF x y = less x.p y.p := cmp_less x.p y.p

theorem swoF : SWO (ltOf cfF) where
  irrefl x := by rw [ltOf_less]; exact less_irrefl _
  trans x y z h1 h2 := by rw [ltOf_less] at *; exact less_trans h1 h2
  ntrans x y z h1 h2 := by rw [ltOf_less] at *; exact less_weak h2 h1

theorem cmpSort (x y : F) (W : World) : Calls Tryz.prog 45 #[fv x, fv y] W fun e w' => e = .returned (.int .i64 (cfF x y)) ∧ ∃ q os', w' = grow (W.drewN q) os' := by
  go_enter Tryz.func45, Tryz.ntmps45
  go_wp2_with fail
  refine (compare_is x.p y.p _).mono ?_
  rintro e w1 ⟨rfl, rfl⟩
  go_wp2
  go_ret
  exact ⟨rfl, 0, _, by rw [alloc_eq_grow, alloc_eq_grow, grow_grow]; rfl⟩

/-- A row of the call's own holds its files. -/
theorem owns_holds [Inhabited F] {w : World} {base : Nat} {v : Value} {l : List F} (h : w.ownsRow base 24 3 v l.length (lcells l)) (hne : l ≠ []) :
    ∃ g cap, v = .slice (some ⟨g, 0, none⟩) l.length cap ∧ base ≤ g ∧ g < w.heap.size ∧ l.length ≤ cap ∧ HoldsK fcells 3 w g 0 l.toArray := by
  rcases h.2 with ⟨rfl, hn⟩ | ⟨g, cap, cur, rfl, hb, hg, hcap, hm, hsz, htk⟩
  · exact absurd (List.length_eq_zero_iff.1 hn) hne
  · refine ⟨g, cap, rfl, hb, (Array.getElem?_eq_some_iff.1 hg).1, hcap, fun t ht => ?_⟩
    rw [size_flatK] at ht
    have ht' : t < l.length * 3 := ht
    refine ⟨?_, by simp [World.frozen?, hg]⟩
    have hk : t / 3 < l.length := by omega
    have hm3 : t % 3 < 3 := Nat.mod_lt _ (by decide)
    rw [get_flatK _ _ _ _ ht, Nat.zero_add]
    have e1 : w.cell? ⟨g, t, none⟩ = (lcells l)[t]? := by
      rw [← htk, List.getElem?_take_of_lt (by omega)]
      simp [World.cell?, hg]
    have e2 : (lcells l)[t]? = (fcells l[t / 3])[t % 3]? := by
      rw [← lcells_at l (t / 3) hk (t % 3) hm3]
      congr 1
      omega
    have e3 : l.toArray[t / 3]! = l[t / 3] := by rw [getElem!_pos l.toArray (t / 3) (by simpa using hk)]; simp
    rw [e1, e2, e3]
    generalize t % 3 = c at hm3
    rcases c with _ | _ | _ | c
    · rfl
    · rfl
    · rfl
    · omega

theorem lies_holds [Inhabited F] {w : World} {g : Nat} {d : Array F} (h : HoldsK fcells 3 w g 0 d) : LiesAt w (some ⟨g, 0, none⟩) d.toList := fun _ => by
  refine ⟨g, 0, rfl, fun k hk => ?_⟩
  have hk' : k < d.size := by simpa using hk
  have c0 := (h.cell (i := k) (c := 0) hk' (by decide)).1
  have c1 := (h.cell (i := k) (c := 1) hk' (by decide)).1
  have c2 := (h.cell (i := k) (c := 2) hk' (by decide)).1
  rw [getElem!_pos d k hk'] at c0 c1 c2
  exact ⟨c0, c1, c2⟩

theorem below_sorted [Inhabited F] {base : Nat} {w : World} {g n : Nat} {d : Array F} {os : Array Obj} (hg : base ≤ g) (hgw : g < w.heap.size) : Below base w (sortWorldK fcells 3 w g 0 n d os) := by
  refine ⟨rfl, rfl, rfl, size_sortWorldK_c fcells 3 w g 0 n d os, fun k hk => ?_⟩
  have hkw : k < w.heap.size := by omega
  show ((putRowK fcells 3 (Sort.ahead w n) g 0 d).heap ++ os)[k]? = _
  have hsz : (putRowK fcells 3 (Sort.ahead w n) g 0 d).heap.size = w.heap.size := size_putRowK fcells 3 (Sort.ahead w n) g 0 d
  rw [Array.getElem?_append_left (by omega)]
  show (w.heap.modify g _)[k]? = _
  rw [Array.getElem?_modify, if_neg (by omega)]

theorem perm_of [Inhabited F] {l : List F} {d' : Array F} (h : PermIn 0 l.toArray.size l.toArray d') : d'.toList.Perm l := by
  have h1 := h.2.2
  have hs := h.1
  rw [show d'.extract 0 l.toArray.size = d' by rw [← hs]; simp] at h1
  simpa using h1

theorem weak_of [Inhabited F] {l : List F} {d' : Array F} (hs : d'.size = l.toArray.size) (h : SortedIn (ltOf cfF) 0 l.toArray.size d') : Weak d'.toList := by
  refine List.pairwise_iff_getElem.2 fun i j hi hj hij => ?_
  have hi' : i < d'.size := by simpa using hi
  have hj' : j < d'.size := by simpa using hj
  have := h i j (Nat.zero_le _) hij (by omega)
  rw [ltOf_less, getElem!_pos d' i hi', getElem!_pos d' j hj'] at this
  simpa using this

theorem sortFunc_any (l : List F) (v : Value) (base : Nat) (w : World) (h : w.ownsRow base 24 3 v l.length (lcells l)) (hf : l.length ≤ 100000) :
    Calls Tryz.prog 44 #[v, .func (.func 45) #[] #[]] w fun e w' => e = .returned (.tuple #[]) ∧ (∃ s a c, v = .slice a l.length c ∧ s.Perm l ∧ Weak s ∧ LiesAt w' a s ∧ l.length ≤ c) ∧ Below base w w' := by
  haveI : Inhabited F := ⟨⟨[], false, []⟩⟩
  by_cases hne : l = []
  · subst hne
    obtain ⟨a, cap, rfl, hl, _⟩ := owns_lies h
    refine (AnyF.slices_SortFunc_none Tryz.laysSort a cap _ w).mono ?_
    rintro e w' ⟨rfl, rfl⟩
    exact ⟨rfl, ⟨[], a, cap, rfl, List.Perm.refl _, List.Pairwise.nil, hl, Nat.zero_le _⟩, Below.refl _ _⟩
  · obtain ⟨g, cap, rfl, hb, hg, hcap, hH⟩ := owns_holds h hne
    have hc := AnyQ.slices_SortFunc Tryz.laysSort 3 Tryz.isAgg24 Tryz.sizeOf24 fcells (fun _ => rfl) (fun x u hu => by simp [fcells] at hu; rcases hu with rfl | rfl | rfl <;> rfl) cfF swoF 45 #[] g 0 cap l.toArray w
      (enters_of Tryz.func45 (by kernel_rfl) rfl) (fun m os dk _ x y => cmpSort x y _) hH hg (by simp; omega)
    refine Calls.mono (show Calls Tryz.prog 44 #[.slice (some ⟨g, 0, none⟩) l.length cap, .func (.func 45) #[] #[]] w _ from hc) ?_
    rintro e w' ⟨rfl, d', n, os, hperm, hsort, rfl⟩
    refine ⟨rfl, ⟨d'.toList, _, cap, rfl, perm_of hperm, weak_of hperm.1 hsort, ?_, hcap⟩, below_sorted hb hg⟩
    exact lies_holds (holdsK_sortWorldK_c fcells 3 w g 0 l.toArray d' n os hH hg hperm.1)
end Go.Proofs.YtpogcedghbokbaaGreatDoor
