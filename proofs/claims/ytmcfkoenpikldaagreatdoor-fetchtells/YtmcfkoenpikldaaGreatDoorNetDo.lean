/-
  One act on both nets, the program's and the document's: over whatever the program's net is (its contracts stand as a hypothesis, NetProg), and this seat's translation.
-/
import Derived.Test.YtmcfkoenpikldaaGreatDoorNetRowRefNetRefNetGetRefNetPutRefNetHostNetActsMem
import Derived.Test.YtmcfkoenpikldaaGreatDoorCodedCodedVCodedTwoKept
import Derived.Test.YtmcfkoenpikldaaGreatDoorPkLinkPkLinks
import Derived.Deep.RegionHeld3
namespace Go.Proofs.YtmcfkoenpikldaaGreatDoor
open Go.RowKit Go.Shelf

/-- What package net wants of the listed variables. -/
structure NEnv (p : Nat → Addr) (w : World) : Prop where
  env : Env p w
  link : LEnv p w
theorem NEnv.below {p : Nat → Addr} {w w' : World} (E : NEnv p w) (hb : Below w.heap.size w w') : NEnv p w' := ⟨E.env.below hb, E.link.below hb⟩

/-- What a call on the program's net leaves: S, its own blocks. -/
structure ProgLeft (At : World → Nat → (Nat → Prop) → Ns → Prop) (w : World) (nb : Nat) (S : Nat → Prop) (s' : Ns) (w' : World) (S' : Nat → Prop) : Prop where
  net : At w' nb S' s'
  below : ∀ B, B ≤ w.heap.size → (∀ b, S b → B ≤ b) → Below B w w'
  kept : Kept S w w'
  own : ∀ b, S' b → S b ∨ w.heap.size ≤ b
/-- The program's net, by its contracts. -/
structure NetProg (p : Nat → Addr) (At : World → Nat → (Nat → Prop) → Ns → Prop) : Prop where
  lt : ∀ {w nb S s}, At w nb S s → ∀ b, S b → b < w.heap.size
  keep : ∀ {w w' nb S s} {T : Nat → Prop}, At w nb S s → Kept T w w' → (∀ b, S b → ¬ T b) → At w' nb S s
  new : ∀ w, Calls Tryz.prog 11 #[] w fun e w' => ∃ nb S, e = .returned (.pointer (some ⟨nb, 0, none⟩)) ∧ At w' nb S Ns.none ∧ (∀ b, S b → w.heap.size ≤ b) ∧ Below w.heap.size w w'
  put : ∀ w nb S s u t, At w nb S s → NEnv p w → s.l.length ≤ 1000 → u.length ≤ 90000 → t.length ≤ 100000 → Calls Tryz.prog 57 #[.pointer (some ⟨nb, 0, none⟩), .string ⟨u.toArray⟩, .string ⟨t.toArray⟩] w fun e w' => e = .returned (errV p (putN s u t).2) ∧ ∃ S', ProgLeft At w nb S (putN s u t).1 w' S'
  host : ∀ w nb S s u on, At w nb S s → NEnv p w → s.off.length ≤ 1000 → u.length ≤ 90000 → Calls Tryz.prog 61 #[.pointer (some ⟨nb, 0, none⟩), .string ⟨u.toArray⟩, .bool on] w fun e w' => e = .returned (errV p (hostN s u on).2) ∧ ∃ S', ProgLeft At w nb S (hostN s u on).1 w' S'
  cut : ∀ w nb S s u k, At w nb S s → NEnv p w → u.length ≤ 90000 → Calls Tryz.prog 63 #[.pointer (some ⟨nb, 0, none⟩), .string ⟨u.toArray⟩, .int .i64 k] w fun e w' => e = .returned (errV p (cutN s u k).2) ∧ ∃ S', ProgLeft At w nb S (cutN s u k).1 w' S'
  get : ∀ w nb S s u, At w nb S s → NEnv p w → s.calls ≤ 1000 → u.length ≤ 90000 → Calls Tryz.prog 65 #[.pointer (some ⟨nb, 0, none⟩), .string ⟨u.toArray⟩] w fun e w' => e = .returned (.tuple #[.string ⟨(getN s u).2.1.toArray⟩, errV p (getN s u).2.2]) ∧ ∃ S', ProgLeft At w nb S (getN s u).1 w' S'
  calls : ∀ w nb S s, At w nb S s → Calls Tryz.prog 26 #[.pointer (some ⟨nb, 0, none⟩)] w fun e w' => e = .returned (.int .i64 s.calls) ∧ Below w.heap.size w w'
/-- The same without a word on a new one. -/
structure NetActs (p : Nat → Addr) (At : World → Nat → (Nat → Prop) → Ns → Prop) : Prop where
  lt : ∀ {w nb S s}, At w nb S s → ∀ b, S b → b < w.heap.size
  keep : ∀ {w w' nb S s} {T : Nat → Prop}, At w nb S s → Kept T w w' → (∀ b, S b → ¬ T b) → At w' nb S s
  put : ∀ w nb S s u t, At w nb S s → NEnv p w → s.l.length ≤ 1000 → u.length ≤ 90000 → t.length ≤ 100000 → Calls Tryz.prog 57 #[.pointer (some ⟨nb, 0, none⟩), .string ⟨u.toArray⟩, .string ⟨t.toArray⟩] w fun e w' => e = .returned (errV p (putN s u t).2) ∧ ∃ S', ProgLeft At w nb S (putN s u t).1 w' S'
  host : ∀ w nb S s u on, At w nb S s → NEnv p w → s.off.length ≤ 1000 → u.length ≤ 90000 → Calls Tryz.prog 61 #[.pointer (some ⟨nb, 0, none⟩), .string ⟨u.toArray⟩, .bool on] w fun e w' => e = .returned (errV p (hostN s u on).2) ∧ ∃ S', ProgLeft At w nb S (hostN s u on).1 w' S'
  cut : ∀ w nb S s u k, At w nb S s → NEnv p w → u.length ≤ 90000 → Calls Tryz.prog 63 #[.pointer (some ⟨nb, 0, none⟩), .string ⟨u.toArray⟩, .int .i64 k] w fun e w' => e = .returned (errV p (cutN s u k).2) ∧ ∃ S', ProgLeft At w nb S (cutN s u k).1 w' S'
  get : ∀ w nb S s u, At w nb S s → NEnv p w → s.calls ≤ 1000 → u.length ≤ 90000 → Calls Tryz.prog 65 #[.pointer (some ⟨nb, 0, none⟩), .string ⟨u.toArray⟩] w fun e w' => e = .returned (.tuple #[.string ⟨(getN s u).2.1.toArray⟩, errV p (getN s u).2.2]) ∧ ∃ S', ProgLeft At w nb S (getN s u).1 w' S'
  calls : ∀ w nb S s, At w nb S s → Calls Tryz.prog 26 #[.pointer (some ⟨nb, 0, none⟩)] w fun e w' => e = .returned (.int .i64 s.calls) ∧ Below w.heap.size w w'
theorem NetProg.acts {p : Nat → Addr} {At : World → Nat → (Nat → Prop) → Ns → Prop} (P : NetProg p At) : NetActs p At := ⟨P.lt, P.keep, P.put, P.host, P.cut, P.get, P.calls⟩

/-- Both nets, each apart from the other. -/
structure Both (At : World → Nat → (Nat → Prop) → Ns → Prop) (w0 W : World) (nb mb : Nat) (S : Nat → Prop) (vL vO : Value) (sp sr : Ns) : Prop where
  below : Below w0.heap.size w0 W
  prog : At W nb S sp
  ref : RefAt W mb vL vO sr
  base : ∀ b, S b → w0.heap.size ≤ b
  mbase : w0.heap.size ≤ mb
  sepM : ¬ S mb
  sepL : ∀ g, vL.ownBlock = some g → ¬ S g
  sepO : ∀ g, vO.ownBlock = some g → ¬ S g
theorem Both.prog_step {p : Nat → Addr} {At : World → Nat → (Nat → Prop) → Ns → Prop} {w0 W W' : World} {nb mb : Nat} {S S' : Nat → Prop} {vL vO : Value} {sp sp' sr : Ns} (_ : NetActs p At) (h : Both At w0 W nb mb S vL vO sp sr) (l : ProgLeft At W nb S sp' W' S') : Both At w0 W' nb mb S' vL vO sp' sr :=
  ⟨h.below.trans (l.below _ h.below.size h.base), l.net, h.ref.kept l.kept h.sepM h.sepL h.sepO, fun b hb => (l.own b hb).elim (h.base b) (Nat.le_trans h.below.size), h.mbase,
    fun hb => (l.own _ hb).elim h.sepM (fun e => by have := h.ref.lt; omega), fun g hg hb => (l.own _ hb).elim (h.sepL g hg) (fun e => by have := h.ref.rows.lt g hg; omega), fun g hg hb => (l.own _ hb).elim (h.sepO g hg) (fun e => by have := h.ref.offs.lt g hg; omega)⟩
theorem Both.ref_step {p : Nat → Addr} {At : World → Nat → (Nat → Prop) → Ns → Prop} {w0 W W' : World} {nb mb : Nat} {S : Nat → Prop} {vL vO vL' vO' : Value} {sp sr sr' : Ns} (P : NetActs p At) (h : Both At w0 W nb mb S vL vO sp sr) (l : RefLeft W mb vL vO sr' W' vL' vO') : Both At w0 W' nb mb S vL' vO' sp sr' :=
  ⟨h.below.trans (l.below.mono h.mbase), P.keep h.prog l.kept (fun b hS hT => hT.elim (fun e => h.sepM (e ▸ hS)) (fun e => h.sepL b e hS)), l.ref, h.base, h.mbase, h.sepM,
    fun g hg hS => (l.rowL g hg).elim (fun e => h.sepL g e hS) (fun e => by have := P.lt h.prog g hS; omega), fun g hg hS => (l.rowO g hg).elim (fun e => h.sepO g e hS) (fun e => by have := P.lt h.prog g hS; omega)⟩
theorem Both.quiet {p : Nat → Addr} {At : World → Nat → (Nat → Prop) → Ns → Prop} {w0 W W' : World} {nb mb : Nat} {S : Nat → Prop} {vL vO : Value} {sp sr : Ns} (P : NetActs p At) (h : Both At w0 W nb mb S vL vO sp sr) (hb : Below W.heap.size W W') : Both At w0 W' nb mb S vL vO sp sr :=
  ⟨h.below.trans (hb.mono h.below.size), P.keep (T := fun _ => False) h.prog (Kept.of_below hb) (fun _ _ f => f), h.ref.below hb, h.base, h.mbase, h.sepM, h.sepL, h.sepO⟩

/-- An act's own block. -/
abbrev ao (a : Ac) : Obj := .cells #[.string ⟨a.k.toArray⟩, .string ⟨a.u.toArray⟩, .string ⟨a.s.toArray⟩, .int .i64 a.n, .bool a.on] 42
structure ActAt (W : World) (X : Nat) (a : Ac) : Prop where
  c0 : W.cell? ⟨X, 0, none⟩ = some (.string ⟨a.k.toArray⟩)
  c1 : W.cell? ⟨X, 1, none⟩ = some (.string ⟨a.u.toArray⟩)
  c2 : W.cell? ⟨X, 2, none⟩ = some (.string ⟨a.s.toArray⟩)
  c3 : W.cell? ⟨X, 3, none⟩ = some (.int .i64 a.n)
  c4 : W.cell? ⟨X, 4, none⟩ = some (.bool a.on)
theorem ActAt.kept {W W' : World} {X : Nat} {a : Ac} {T : Nat → Prop} (h : ActAt W X a) (hk : Kept T W W') (hX : ¬ T X) : ActAt W' X a := by
  have hb := hk.block X (block_lt_of_cell h.c0) hX
  have hc : ∀ j, W'.cell? ⟨X, j, none⟩ = W.cell? ⟨X, j, none⟩ := fun j => by simp [World.cell?, hb]
  exact ⟨(hc 0).trans h.c0, (hc 1).trans h.c1, (hc 2).trans h.c2, (hc 3).trans h.c3, (hc 4).trans h.c4⟩
theorem ActAt.new (W : World) (a : Ac) : ActAt (W.alloc (ao a)) W.heap.size a := by
  have e := heap_new W (ao a)
  generalize W.alloc (ao a) = V at e ⊢
  exact ⟨by simp [World.cell?, e], by simp [World.cell?, e], by simp [World.cell?, e], by simp [World.cell?, e], by simp [World.cell?, e]⟩
/-- Both nets, and an act apart from them. -/
structure InDo (At : World → Nat → (Nat → Prop) → Ns → Prop) (w0 W : World) (nb mb X : Nat) (S : Nat → Prop) (vL vO : Value) (a : Ac) (sp sr : Ns) : Prop where
  both : Both At w0 W nb mb S vL vO sp sr
  act : ActAt W X a
  sepX : ¬ S X
  xm : X ≠ mb
  xL : vL.ownBlock ≠ some X
theorem InDo.prog_step {p : Nat → Addr} {At : World → Nat → (Nat → Prop) → Ns → Prop} {w0 W W' : World} {nb mb X : Nat} {S S' : Nat → Prop} {vL vO : Value} {a : Ac} {sp sp' sr : Ns} (P : NetActs p At) (h : InDo At w0 W nb mb X S vL vO a sp sr) (l : ProgLeft At W nb S sp' W' S') : InDo At w0 W' nb mb X S' vL vO a sp' sr :=
  ⟨h.both.prog_step P l, h.act.kept l.kept h.sepX, fun hb => (l.own _ hb).elim h.sepX (fun e => by have := block_lt_of_cell h.act.c0; simp at this; omega), h.xm, h.xL⟩
theorem InDo.ref_step {p : Nat → Addr} {At : World → Nat → (Nat → Prop) → Ns → Prop} {w0 W W' : World} {nb mb X : Nat} {S : Nat → Prop} {vL vO vL' vO' : Value} {a : Ac} {sp sr sr' : Ns} (P : NetActs p At) (h : InDo At w0 W nb mb X S vL vO a sp sr) (l : RefLeft W mb vL vO sr' W' vL' vO') : InDo At w0 W' nb mb X S vL' vO' a sp sr' :=
  ⟨h.both.ref_step P l, h.act.kept l.kept (fun hT => hT.elim h.xm h.xL), h.sepX, h.xm, fun e => (l.rowL X e).elim h.xL (fun e => by have := block_lt_of_cell h.act.c0; simp at this; omega)⟩
theorem InDo.quiet {p : Nat → Addr} {At : World → Nat → (Nat → Prop) → Ns → Prop} {w0 W W' : World} {nb mb X : Nat} {S : Nat → Prop} {vL vO : Value} {a : Ac} {sp sr : Ns} (P : NetActs p At) (h : InDo At w0 W nb mb X S vL vO a sp sr) (hb : Below W.heap.size W W') : InDo At w0 W' nb mb X S vL vO a sp sr :=
  ⟨h.both.quiet P hb, h.act.kept (T := fun _ => False) (Kept.of_below hb) (fun f => f), h.sepX, h.xm, h.xL⟩

theorem putN_le (s : Ns) (u t : List UInt8) : (putN s u t).2 ≤ 13 := by
  have := checkK_small u
  unfold putN
  repeat' split
  all_goals first | omega | (show checkK u ≤ 13; omega) | (simp; done) | (simp; omega)
theorem hostN_le (s : Ns) (u : List UInt8) (on : Bool) : (hostN s u on).2 ≤ 13 := by
  unfold hostN
  split <;> simp
theorem cutN_le (s : Ns) (u : List UInt8) (k : Int) : (cutN s u k).2 ≤ 13 := by
  unfold cutN
  repeat' split
  all_goals simp
theorem getN_le (s : Ns) (u : List UInt8) : (getN s u).2.2 ≤ 13 := by
  have := checkK_small u
  unfold getN
  repeat' split
  all_goals first | omega | (show checkK u ≤ 13; omega) | (simp; done) | (simp; omega)

/-- What an act does. -/
def actN (s : Ns) (a : Ac) : Ns :=
  if a.k = [112, 117, 116] then (putN s a.u a.s).1 else if a.k = [104, 111, 115, 116] then (hostN s a.u a.on).1 else if a.k = [99, 117, 116] then (cutN s a.u a.n).1 else (getN s a.u).1

set_option maxRecDepth 100000 in
set_option maxHeartbeats 8000000 in
theorem do_any {p : Nat → Addr} {At : World → Nat → (Nat → Prop) → Ns → Prop} (P : NetActs p At) (w0 W : World) (nb mb : Nat) (S : Nat → Prop) (vL vO : Value) (s : Ns) (a : Ac) (hE : NEnv p w0) (hB : Both At w0 W nb mb S vL vO s s) (hl : s.l.length ≤ 1000) (ho : s.off.length ≤ 1000) (hc : s.calls ≤ 1000) (hu : a.u.length ≤ 90000) (ht : a.s.length ≤ 100000) :
    Calls Tryz.prog 14 #[.pointer (some ⟨nb, 0, none⟩), .pointer (some ⟨mb, 0, none⟩), av a] W fun e w' => e = .returned (.int .i64 1) ∧ ∃ S' vL' vO', Both At w0 w' nb mb S' vL' vO' (actN s a) (actN s a) := by
  have HE : Hid (∀ {V}, Below w0.heap.size w0 V → NEnv p V) := fun h => hE.below h
  have hXm : W.heap.size ≠ mb := fun e => by have := hB.ref.lt; omega
  have I0 : Hid (InDo At w0 (W.alloc (ao a)) nb mb W.heap.size S vL vO a s s) := ⟨hB.quiet P ((Below.refl _ _).alloc (Nat.le_refl _) _), ActAt.new W a, fun h => by have := P.lt hB.prog _ h; omega, hXm, fun e => by have := hB.ref.rows.lt _ e; omega⟩
  obtain ⟨ak, au, ad, an, aon⟩ := a
  simp only at hu ht
  clear hE hB
  generalize hXX : W.heap.size = X at I0 hXm
  by_cases h1 : ak = [112, 117, 116]
  · subst h1
    have HA : Hid (actN s ⟨[112, 117, 116], au, ad, an, aon⟩ = (putN s au ad).1) := by
      show actN s ⟨[112, 117, 116], au, ad, an, aon⟩ = _
      unfold actN
      rw [if_pos rfl]
    have hle : (putN s au ad).2 ≤ 13 := putN_le _ _ _
    go_enter Tryz.func14, Tryz.ntmps14
    have I1 : Hid (InDo At w0 (W.alloc (ao ⟨[112, 117, 116], au, ad, an, aon⟩)).drew nb mb X S vL vO ⟨[112, 117, 116], au, ad, an, aon⟩ s s) := I0.out.quiet P ((Below.refl _ _).drew)
    obtain ⟨c0, c1, c2, c3, c4⟩ := I0.out.act
    go_wp2_with fail
    go_region_held3 (fun w' => w'.cell? ⟨X, 1, none⟩ = some (.string ⟨au.toArray⟩) ∧ w'.cell? ⟨X, 2, none⟩ = some (.string ⟨ad.toArray⟩)) (go_keep) (first
      | (go_at_call 57; (refine (P.put _ nb S s au ad I1.out.both.prog (HE.out I1.out.both.below) (by omega) hu ht).mono ?_); rintro e w2 ⟨rfl, S2, l2⟩; have I2 : Hid (InDo At w0 w2 nb mb X S2 vL vO ⟨[112, 117, 116], au, ad, an, aon⟩ (putN s au ad).1 s) := I1.out.prog_step P l2; have d1 : w2.cell? ⟨X, 1, none⟩ = some (.string ⟨au.toArray⟩) := I2.out.act.c1; have d2 : w2.cell? ⟨X, 2, none⟩ = some (.string ⟨ad.toArray⟩) := I2.out.act.c2; clear l2)
      | (go_at_call 60; (refine (refPutN_any mb vL vO s au ad _ I2.out.both.ref (by omega) hu ht).mono ?_); rintro e w3 ⟨rfl, vL3, vO3, l3⟩; have I3 : Hid (InDo At w0 w3 nb mb X S2 vL3 vO3 ⟨[112, 117, 116], au, ad, an, aon⟩ (putN s au ad).1 (putN s au ad).1) := I2.out.ref_step P l3; have q1 : w3.cell? ⟨X, 1, none⟩ = some (.string ⟨au.toArray⟩) := I3.out.act.c1; have q2 : w3.cell? ⟨X, 2, none⟩ = some (.string ⟨ad.toArray⟩) := I3.out.act.c2; clear l3)
      | (go_at_call 59; (refine (codedTwo_errV p (putN s au ad).2 _ (HE.out I3.out.both.below).env hle).mono ?_); rintro e w4 ⟨rfl, hb4⟩; have I4 : Hid (InDo At w0 w4 nb mb X S2 vL3 vO3 ⟨[112, 117, 116], au, ad, an, aon⟩ (putN s au ad).1 (putN s au ad).1) := I3.out.quiet P hb4; have t1 : w4.cell? ⟨X, 1, none⟩ = some (.string ⟨au.toArray⟩) := I4.out.act.c1; have t2 : w4.cell? ⟨X, 2, none⟩ = some (.string ⟨ad.toArray⟩) := I4.out.act.c2; clear hb4))
    all_goals
      clear c0 c1 c2 c3 c4 d1 d2 q1 q2 t1 t2 I0 I1 I2 I3
      have B4 := Lib.hid I4.out.both
      clear I4
      generalize (putN s au ad).1 = r at HA B4
      generalize (putN s au ad).2 = k at *
      have B5 : Hid (Both At w0 w4.drew nb mb S2 vL3 vO3 r r) := B4.out.quiet P ((Below.refl _ _).drew)
      have m2 := B4.out.ref.c2
      go_wp2_with fail
      go_region_held3 (fun w' => w'.cell? ⟨mb, 2, none⟩ = some (.int .i64 r.calls)) (go_keep) (
        (go_at_call 26; (refine (P.calls _ nb S2 r B5.out.prog).mono ?_); rintro e w5 ⟨rfl, hb5⟩; have B6 : Hid (Both At w0 w5 nb mb S2 vL3 vO3 r r) := B5.out.quiet P hb5; have e2 : w5.cell? ⟨mb, 2, none⟩ = some (.int .i64 r.calls) := B6.out.ref.c2; clear hb5))
      all_goals go_wp2
      all_goals go_ret
      all_goals exact ⟨by rfl, S2, vL3, vO3, by rw [HA.out]; exact B6.out⟩
  by_cases h2 : ak = [104, 111, 115, 116]
  · subst h2
    have HA : Hid (actN s ⟨[104, 111, 115, 116], au, ad, an, aon⟩ = (hostN s au aon).1) := by
      show actN s ⟨[104, 111, 115, 116], au, ad, an, aon⟩ = _
      unfold actN
      rw [if_neg (by simp)]; rw [if_pos rfl]
    have hle : (hostN s au aon).2 ≤ 13 := hostN_le _ _ _
    go_enter Tryz.func14, Tryz.ntmps14
    have I1 : Hid (InDo At w0 (W.alloc (ao ⟨[104, 111, 115, 116], au, ad, an, aon⟩)).drew nb mb X S vL vO ⟨[104, 111, 115, 116], au, ad, an, aon⟩ s s) := I0.out.quiet P ((Below.refl _ _).drew)
    obtain ⟨c0, c1, c2, c3, c4⟩ := I0.out.act
    go_wp2_with fail
    go_region_held3 (fun w' => w'.cell? ⟨X, 1, none⟩ = some (.string ⟨au.toArray⟩) ∧ w'.cell? ⟨X, 4, none⟩ = some (.bool aon)) (go_keep) (first
      | (go_at_call 61; (refine (P.host _ nb S s au aon I1.out.both.prog (HE.out I1.out.both.below) (by omega) hu).mono ?_); rintro e w2 ⟨rfl, S2, l2⟩; have I2 : Hid (InDo At w0 w2 nb mb X S2 vL vO ⟨[104, 111, 115, 116], au, ad, an, aon⟩ (hostN s au aon).1 s) := I1.out.prog_step P l2; have d1 : w2.cell? ⟨X, 1, none⟩ = some (.string ⟨au.toArray⟩) := I2.out.act.c1; have d4 : w2.cell? ⟨X, 4, none⟩ = some (.bool aon) := I2.out.act.c4; clear l2)
      | (go_at_call 62; (refine (refHost_any mb vL vO s au aon _ I2.out.both.ref (by omega) hu).mono ?_); rintro e w3 ⟨rfl, vL3, vO3, l3⟩; have I3 : Hid (InDo At w0 w3 nb mb X S2 vL3 vO3 ⟨[104, 111, 115, 116], au, ad, an, aon⟩ (hostN s au aon).1 (hostN s au aon).1) := I2.out.ref_step P l3; have q1 : w3.cell? ⟨X, 1, none⟩ = some (.string ⟨au.toArray⟩) := I3.out.act.c1; have q4 : w3.cell? ⟨X, 4, none⟩ = some (.bool aon) := I3.out.act.c4; clear l3)
      | (go_at_call 59; (refine (codedTwo_errV p (hostN s au aon).2 _ (HE.out I3.out.both.below).env hle).mono ?_); rintro e w4 ⟨rfl, hb4⟩; have I4 : Hid (InDo At w0 w4 nb mb X S2 vL3 vO3 ⟨[104, 111, 115, 116], au, ad, an, aon⟩ (hostN s au aon).1 (hostN s au aon).1) := I3.out.quiet P hb4; have t1 : w4.cell? ⟨X, 1, none⟩ = some (.string ⟨au.toArray⟩) := I4.out.act.c1; have t4 : w4.cell? ⟨X, 4, none⟩ = some (.bool aon) := I4.out.act.c4; clear hb4))
    all_goals
      clear c0 c1 c2 c3 c4 d1 d4 q1 q4 t1 t4 I0 I1 I2 I3
      have B4 := Lib.hid I4.out.both
      clear I4
      generalize (hostN s au aon).1 = r at HA B4
      generalize (hostN s au aon).2 = k at *
      have B5 : Hid (Both At w0 w4.drew nb mb S2 vL3 vO3 r r) := B4.out.quiet P ((Below.refl _ _).drew)
      have m2 := B4.out.ref.c2
      go_wp2_with fail
      go_region_held3 (fun w' => w'.cell? ⟨mb, 2, none⟩ = some (.int .i64 r.calls)) (go_keep) (
        (go_at_call 26; (refine (P.calls _ nb S2 r B5.out.prog).mono ?_); rintro e w5 ⟨rfl, hb5⟩; have B6 : Hid (Both At w0 w5 nb mb S2 vL3 vO3 r r) := B5.out.quiet P hb5; have e2 : w5.cell? ⟨mb, 2, none⟩ = some (.int .i64 r.calls) := B6.out.ref.c2; clear hb5))
      all_goals go_wp2
      all_goals go_ret
      all_goals exact ⟨by rfl, S2, vL3, vO3, by rw [HA.out]; exact B6.out⟩
  by_cases h3 : ak = [99, 117, 116]
  · subst h3
    have HA : Hid (actN s ⟨[99, 117, 116], au, ad, an, aon⟩ = (cutN s au an).1) := by
      show actN s ⟨[99, 117, 116], au, ad, an, aon⟩ = _
      unfold actN
      rw [if_neg (by simp), if_neg (by simp)]; rw [if_pos rfl]
    have hle : (cutN s au an).2 ≤ 13 := cutN_le _ _ _
    go_enter Tryz.func14, Tryz.ntmps14
    have I1 : Hid (InDo At w0 (W.alloc (ao ⟨[99, 117, 116], au, ad, an, aon⟩)).drew nb mb X S vL vO ⟨[99, 117, 116], au, ad, an, aon⟩ s s) := I0.out.quiet P ((Below.refl _ _).drew)
    obtain ⟨c0, c1, c2, c3, c4⟩ := I0.out.act
    go_wp2_with fail
    go_region_held3 (fun w' => w'.cell? ⟨X, 1, none⟩ = some (.string ⟨au.toArray⟩) ∧ w'.cell? ⟨X, 3, none⟩ = some (.int .i64 an)) (go_keep) (first
      | (go_at_call 63; (refine (P.cut _ nb S s au an I1.out.both.prog (HE.out I1.out.both.below) hu).mono ?_); rintro e w2 ⟨rfl, S2, l2⟩; have I2 : Hid (InDo At w0 w2 nb mb X S2 vL vO ⟨[99, 117, 116], au, ad, an, aon⟩ (cutN s au an).1 s) := I1.out.prog_step P l2; have d1 : w2.cell? ⟨X, 1, none⟩ = some (.string ⟨au.toArray⟩) := I2.out.act.c1; have d3 : w2.cell? ⟨X, 3, none⟩ = some (.int .i64 an) := I2.out.act.c3; clear l2)
      | (go_at_call 64; (refine (refSetCut_any mb vL vO s au an _ I2.out.both.ref (by omega)).mono ?_); rintro e w3 ⟨rfl, vL3, vO3, l3⟩; have I3 : Hid (InDo At w0 w3 nb mb X S2 vL3 vO3 ⟨[99, 117, 116], au, ad, an, aon⟩ (cutN s au an).1 (cutN s au an).1) := I2.out.ref_step P l3; have q1 : w3.cell? ⟨X, 1, none⟩ = some (.string ⟨au.toArray⟩) := I3.out.act.c1; have q3 : w3.cell? ⟨X, 3, none⟩ = some (.int .i64 an) := I3.out.act.c3; clear l3)
      | (go_at_call 59; (refine (codedTwo_errV p (cutN s au an).2 _ (HE.out I3.out.both.below).env hle).mono ?_); rintro e w4 ⟨rfl, hb4⟩; have I4 : Hid (InDo At w0 w4 nb mb X S2 vL3 vO3 ⟨[99, 117, 116], au, ad, an, aon⟩ (cutN s au an).1 (cutN s au an).1) := I3.out.quiet P hb4; have t1 : w4.cell? ⟨X, 1, none⟩ = some (.string ⟨au.toArray⟩) := I4.out.act.c1; have t3 : w4.cell? ⟨X, 3, none⟩ = some (.int .i64 an) := I4.out.act.c3; clear hb4))
    all_goals
      clear c0 c1 c2 c3 c4 d1 d3 q1 q3 t1 t3 I0 I1 I2 I3
      have B4 := Lib.hid I4.out.both
      clear I4
      generalize (cutN s au an).1 = r at HA B4
      generalize (cutN s au an).2 = k at *
      have B5 : Hid (Both At w0 w4.drew nb mb S2 vL3 vO3 r r) := B4.out.quiet P ((Below.refl _ _).drew)
      have m2 := B4.out.ref.c2
      go_wp2_with fail
      go_region_held3 (fun w' => w'.cell? ⟨mb, 2, none⟩ = some (.int .i64 r.calls)) (go_keep) (
        (go_at_call 26; (refine (P.calls _ nb S2 r B5.out.prog).mono ?_); rintro e w5 ⟨rfl, hb5⟩; have B6 : Hid (Both At w0 w5 nb mb S2 vL3 vO3 r r) := B5.out.quiet P hb5; have e2 : w5.cell? ⟨mb, 2, none⟩ = some (.int .i64 r.calls) := B6.out.ref.c2; clear hb5))
      all_goals go_wp2
      all_goals go_ret
      all_goals exact ⟨by rfl, S2, vL3, vO3, by rw [HA.out]; exact B6.out⟩
  have HA : Hid (actN s ⟨ak, au, ad, an, aon⟩ = (getN s au).1) := by
    show actN s ⟨ak, au, ad, an, aon⟩ = _
    unfold actN
    rw [if_neg h1, if_neg h2, if_neg h3]
  have b1 : (ak == [112, 117, 116]) = false := by simpa using h1
  have b2 : (ak == [104, 111, 115, 116]) = false := by simpa using h2
  have b3 : (ak == [99, 117, 116]) = false := by simpa using h3
  clear h1 h2 h3
  have hle : (getN s au).2.2 ≤ 13 := getN_le _ _
  go_enter Tryz.func14, Tryz.ntmps14
  obtain ⟨c0, c1, c2, c3, c4⟩ := I0.out.act
  go_wp2_with fail
  refine (P.get _ nb S s au I0.out.both.prog (HE.out I0.out.both.below) hc hu).mono ?_
  rintro e w2 ⟨rfl, S2, l2⟩
  have I2 : Hid (InDo At w0 w2 nb mb X S2 vL vO ⟨ak, au, ad, an, aon⟩ (getN s au).1 s) := I0.out.prog_step P l2
  clear l2 c0 c1 c2 c3 c4
  have d1 : w2.cell? ⟨X, 1, none⟩ = some (.string ⟨au.toArray⟩) := I2.out.act.c1
  go_wp2_with fail
  refine (refGet_any mb vL vO s au _ I2.out.both.ref (by omega) (by omega) (by omega) hu).mono ?_
  rintro e w3 ⟨rfl, vL3, vO3, l3⟩
  have I3 : Hid (InDo At w0 w3 nb mb X S2 vL3 vO3 ⟨ak, au, ad, an, aon⟩ (getN s au).1 (getN s au).1) := I2.out.ref_step P l3
  clear l3 d1
  have B3 := Lib.hid I3.out.both
  clear I0 I2 I3
  generalize (getN s au).1 = r at HA B3
  generalize (getN s au).2.2 = k at *
  generalize (getN s au).2.1 = x at *
  go_wp2_with fail
  refine (codedTwo_errV p k _ (HE.out B3.out.below).env hle).mono ?_
  rintro e w4 ⟨rfl, hb4⟩
  have B4 : Hid (Both At w0 w4 nb mb S2 vL3 vO3 r r) := B3.out.quiet P hb4
  clear hb4 B3
  have B5 : Hid (Both At w0 w4.drew nb mb S2 vL3 vO3 r r) := B4.out.quiet P ((Below.refl _ _).drew)
  have m2 := B4.out.ref.c2
  go_wp2_with fail
  go_region_held3 (fun w' => w'.cell? ⟨mb, 2, none⟩ = some (.int .i64 r.calls)) (go_keep) (
    (go_at_call 26; (refine (P.calls _ nb S2 r B5.out.prog).mono ?_); rintro e w5 ⟨rfl, hb5⟩; have B6 : Hid (Both At w0 w5 nb mb S2 vL3 vO3 r r) := B5.out.quiet P hb5; have e2 : w5.cell? ⟨mb, 2, none⟩ = some (.int .i64 r.calls) := B6.out.ref.c2; clear hb5))
  all_goals go_wp2
  all_goals go_ret
  all_goals exact ⟨by rfl, S2, vL3, vO3, by rw [HA.out]; exact B6.out⟩

theorem act_bounds (s : Ns) (a : Ac) : (actN s a).l.length ≤ s.l.length + 1 ∧ (actN s a).off.length ≤ s.off.length + 1 ∧ (actN s a).calls ≤ s.calls + 1 := by
  unfold actN
  split
  · unfold putN
    repeat' split
    all_goals simp
  split
  · unfold hostN
    split
    · simp
    · have h1 : (s.off.filter (fun x => !(x == a.u))).length ≤ s.off.length := List.length_filter_le _ _
      refine ⟨Nat.le_succ _, ?_, Nat.le_succ _⟩
      show (s.off.filter (fun x => !(x == a.u)) ++ _).length ≤ _
      rw [List.length_append]
      split <;> simp <;> omega
  split
  · unfold cutN
    repeat' split
    all_goals simp
  · unfold getN
    repeat' split
    all_goals simp

/-- The document's net, new. -/
theorem ref_new (w : World) : RefAt (w.alloc (.cells #[.slice none 0 0, .slice none 0 0, .int .i64 0] 37)) w.heap.size (.slice none 0 0) (.slice none 0 0) Ns.none := by
  have e := heap_new w (.cells #[.slice none 0 0, .slice none 0 0, .int .i64 0] 37)
  generalize hV : w.alloc (.cells #[.slice none 0 0, .slice none 0 0, .int .i64 0] 37) = V at e ⊢
  exact ⟨by simp [World.cell?, e], by simp [World.cell?, e], by simp [World.cell?, e, Ns.none], fun j => by simp [World.frozen?, e], World.ownsRow_nil _ _ _ _, World.ownsRow_nil _ _ _ _, fun g h => by simp [Value.ownBlock] at h⟩
end Go.Proofs.YtmcfkoenpikldaaGreatDoor
