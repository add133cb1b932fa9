/-
  What is held, the program's and the document's, side by side and apart: over whatever the program's is (HeldProg), and this seat's translation.
-/
import Derived.Test.YtcnejkbbheihiaaGreatDoorHeldProg
import Derived.Test.YtcnejkbbheihiaaGreatDoorHeldRowRefHeld
namespace Go.Proofs.YtcnejkbbheihiaaGreatDoor
open Go.RowKit Go.Shelf

/-- Trees that came in, and are right. -/
def Brought (w0 : World) (rs : List Rt) : Prop := ∀ r ∈ rs, LiesAt w0 r.a r.l ∧ r.l.length ≤ r.c ∧ Small r.l
/-- Both, each apart from the other. -/
structure BothH (At : HeldIs) (w0 W : World) (nb mb : Nat) (S R : Nat → Prop) (v : Value) (M : Nat) (rs : List Rt) : Prop where
  prog : InH At w0 W nb S R ⟨M, rs.map Rt.tr⟩
  ref : RefHAt W mb v M rs
  mbase : w0.heap.size ≤ mb
  sepM : ¬ (S mb ∨ R mb)
  sepV : ∀ g, v.ownBlock = some g → ¬ (S g ∨ R g)
  lies : Brought w0 rs
theorem BothH.quiet {p : Nat → Addr} {At : HeldIs} {w0 W W' : World} {nb mb : Nat} {S R : Nat → Prop} {v : Value} {M : Nat} {rs : List Rt} (P : HeldProg p At) (h : BothH At w0 W nb mb S R v M rs) (hb : Below W.heap.size W W') : BothH At w0 W' nb mb S R v M rs :=
  ⟨h.prog.quiet P hb, h.ref.below hb, h.mbase, h.sepM, h.sepV, h.lies⟩
theorem BothH.few {At : HeldIs} {w0 W : World} {nb mb : Nat} {S R : Nat → Prop} {v : Value} {M : Nat} {rs : List Rt} (h : BothH At w0 W nb mb S R v M rs) : rs.length ≤ 40 := by
  have h1 := h.prog.ok.few
  have h2 := h.prog.ok.most
  simp only [List.length_map] at h1 h2
  omega
/-- The program's has done something. -/
structure HalfH (At : HeldIs) (w0 W : World) (nb mb : Nat) (S R : Nat → Prop) (v : Value) (M : Nat) (s' : Hs) (rs : List Rt) : Prop where
  prog : InH At w0 W nb S R s'
  ref : RefHAt W mb v M rs
  mbase : w0.heap.size ≤ mb
  sepM : ¬ (S mb ∨ R mb)
  sepV : ∀ g, v.ownBlock = some g → ¬ (S g ∨ R g)
theorem BothH.prog_step {At : HeldIs} {w0 W W' : World} {nb mb : Nat} {S R S' R' : Nat → Prop} {v : Value} {M : Nat} {s' : Hs} {rs : List Rt} (h : BothH At w0 W nb mb S R v M rs) (l : HeldLeft At W nb S R s' W' S' R') (hs : OkH s') : HalfH At w0 W' nb mb S' R' v M s' rs := by
  have hout : ∀ g, g < W.heap.size → ¬ (S g ∨ R g) → ¬ (S' g ∨ R' g) := fun g hg hn hb => by
    rcases hb with hb | hb
    · exact (l.own g hb).elim (fun e => hn (.inl e)) (fun e => by omega)
    · rcases l.ownR g hb with e | e | e
      · exact hn (.inl e)
      · exact hn (.inr e)
      · omega
  exact ⟨h.prog.step l hs, h.ref.kept l.kept (fun e => h.sepM (.inl e)) (fun g hg e => h.sepV g hg (.inl e)), h.mbase, hout mb h.ref.lt h.sepM, fun g hg => hout g (h.ref.row.lt g hg).2 (h.sepV g hg)⟩
/-- And then the document's. -/
theorem HalfH.ref_step {p : Nat → Addr} {At : HeldIs} {w0 W W' : World} {nb mb : Nat} {S R : Nat → Prop} {v v' : Value} {M : Nat} {s' : Hs} {rs rs' : List Rt} (P : HeldProg p At) (h : HalfH At w0 W nb mb S R v M s' rs) (l : RefHLeft W mb M rs' W' v' v) (hm : s'.most = M) (ht : s'.l = rs'.map Rt.tr) (hb : Brought w0 rs') : BothH At w0 W' nb mb S R v' M rs' := by
  obtain ⟨sm, sl⟩ := s'
  simp only at hm ht
  subst hm ht
  have hin : InH At w0 W' nb S R ⟨sm, rs'.map Rt.tr⟩ := ⟨h.prog.below.trans (l.below.mono h.mbase), P.keep h.prog.held l.kept (fun b hS e => h.sepM (e ▸ hS)), h.prog.base, h.prog.ok⟩
  refine ⟨hin, l.ref, h.mbase, h.sepM, fun g hg hS => ?_, hb⟩
  rcases l.row g hg with e | e
  · exact h.sepV g e hS
  · have := P.lt h.prog.held g hS
    omega
theorem dropH_le (s : Hs) (n : Int) : (dropH s n).2 ≤ 13 := by
  unfold dropH
  split <;> simp
/-- An error stays where only the document's block is written. -/
theorem err_apart_held {p : Nat → Addr} {w w' : World} {mb M : Nat} {v u : Value} {rs : List Rt} {c : Nat} {i : Int} (h : ErrAt p w u c i) (hr : RefHAt w mb v M rs) (k : Kept (fun b => b = mb) w w') : ErrAt p w' u c i := by
  rcases h with h | h | ⟨j, b, o, h0, h1, h2, h3, h4⟩
  · exact .inl h
  · exact .inr (.inl h)
  · have hne : b ≠ mb := fun e => by
      subst e
      rcases o with _ | o
      · obtain ⟨av, cv, hv⟩ := owns_slice hr.row
        have := hr.c1
        rw [h4, hv] at this
        cases this
      · have := hr.two o
        rw [h4] at this
        cases this
    have hb := k.block b (block_lt_of_cell h3) hne
    have hc : ∀ j, w'.cell? ⟨b, j, none⟩ = w.cell? ⟨b, j, none⟩ := fun j => by simp [World.cell?, hb]
    exact .inr (.inr ⟨j, b, o, h0, h1, h2, (hc o).trans h3, (hc (o + 1)).trans h4⟩)
end Go.Proofs.YtcnejkbbheihiaaGreatDoor
