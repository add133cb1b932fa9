/-
  Own texts of the proof, joined by program: Told, PkPackRead.
-/
import Derived.Test.YtmcfkoenpikldaaGreatDoorTreeMemTreeSlotsTreeErrTreeOwn
import Derived.Test.YtmcfkoenpikldaaGreatDoorPkFilePkCutFile
import Derived.Test.YtmcfkoenpikldaaGreatDoorPkNextPkCheck
/-
  What a function that answers files and an error tells; what one of the document's answer that answers files and a fault tells: over this seat's translation.
-/
namespace Go.Proofs.YtmcfkoenpikldaaGreatDoor
open Go.RowKit Go.Shelf

/-- What a call tells that makes a tree: the files, and an error's number and place. -/
def Told (p : Nat → Addr) (w : World) (e : Ending) (r : List F × Nat × Int) : Prop :=
  ∃ a c v, e = .returned (.tuple #[.slice a r.1.length c, v]) ∧ LiesAt w a r.1 ∧ r.1.length ≤ c ∧ ErrAt p w v r.2.1 r.2.2

theorem told_none {p : Nat → Addr} {w : World} {v : Value} {c : Nat} {i : Int} (h : ErrAt p w v c i) : Told p w (.returned (.tuple #[.slice none 0 0, v])) ([], c, i) :=
  ⟨none, 0, v, rfl, fun h => absurd rfl h, Nat.le_refl _, h⟩

/-- Files in memory that is new; nil has no room. -/
structure NewL (B : Nat) (a : Option Addr) (c : Nat) (l : List F) : Prop where
  new : l ≠ [] → ∀ b o t, a = some ⟨b, o, t⟩ → B ≤ b
  nil : a = none → c = 0
theorem NewL.none (B : Nat) : NewL B Option.none 0 [] := ⟨fun h => absurd rfl h, fun _ => rfl⟩
theorem NewL.mono {B C : Nat} {a : Option Addr} {c : Nat} {l : List F} (h : NewL B a c l) (hc : C ≤ B) : NewL C a c l := ⟨fun hl b o t e => Nat.le_trans hc (h.new hl b o t e), h.nil⟩
theorem NewL.empty {B : Nat} {w : World} {a : Option Addr} {c : Nat} {l : List F} (h : NewL B a c l) (hl : LiesAt w a l) : a = Option.none → c = 0 ∧ l = [] := fun e => ⟨h.nil e, by
  by_cases hn : l = []
  · exact hn
  · obtain ⟨b, o, e2, _⟩ := hl hn
    rw [e] at e2
    cases e2⟩
theorem owns_nil {w : World} {base : Nat} {ty : TypeId} {size : Nat} {a : Option Addr} {n c m : Nat} {xs : List Value} (h : w.ownsRow base ty size (.slice a n c) m xs) : a = none → c = 0 := fun e => by
  rcases h.2 with ⟨h1, _⟩ | ⟨g, cap, cur, h1, h2, _⟩
  · simp only [Value.slice.injEq] at h1
    exact h1.2.2
  · simp only [Value.slice.injEq] at h1
    rw [h1.1] at e
    cases e
theorem owns_new {w : World} {base : Nat} {ty : TypeId} {size : Nat} {a : Option Addr} {n c m : Nat} {xs : List Value} (h : w.ownsRow base ty size (.slice a n c) m xs) : ∀ b o t, a = some ⟨b, o, t⟩ → base ≤ b := fun b o t e => by
  rcases h.2 with ⟨h1, _⟩ | ⟨g, cap, cur, h1, h2, _⟩
  · simp only [Value.slice.injEq] at h1
    rw [h1.1] at e
    cases e
  · simp only [Value.slice.injEq] at h1
    rw [h1.1] at e
    cases e
    exact h2
/-- What a call tells that makes a tree, in memory that is new. -/
def ToldN (p : Nat → Addr) (B : Nat) (w : World) (e : Ending) (r : List F × Nat × Int) : Prop :=
  ∃ a c v, e = .returned (.tuple #[.slice a r.1.length c, v]) ∧ LiesAt w a r.1 ∧ r.1.length ≤ c ∧ ErrAt p w v r.2.1 r.2.2 ∧ NewL B a c r.1
theorem toldN_none {p : Nat → Addr} {B : Nat} {w : World} {v : Value} {c : Nat} {i : Int} (h : ErrAt p w v c i) : ToldN p B w (.returned (.tuple #[.slice none 0 0, v])) ([], c, i) :=
  ⟨none, 0, v, rfl, fun h => absurd rfl h, Nat.le_refl _, h, NewL.none _⟩
theorem ToldN.told {p : Nat → Addr} {B : Nat} {w : World} {e : Ending} {r : List F × Nat × Int} (h : ToldN p B w e r) : Told p w e r := by
  obtain ⟨a, c, v, h1, h2, h3, h4, _⟩ := h
  exact ⟨a, c, v, h1, h2, h3, h4⟩
theorem ToldN.open {p : Nat → Addr} {B : Nat} {w : World} {e : Ending} {r : List F × Nat × Int} {l : List F} {c : Nat} {i : Int} (h : ToldN p B w e r) (hr : r = (l, c, i)) :
    ∃ a ca v, e = .returned (.tuple #[.slice a l.length ca, v]) ∧ LiesAt w a l ∧ l.length ≤ ca ∧ ErrAt p w v c i ∧ NewL B a ca l := by
  subst hr
  exact h

/-- What was told, with what it comes to. -/
theorem Told.open {p : Nat → Addr} {w : World} {e : Ending} {r : List F × Nat × Int} {l : List F} {c : Nat} {i : Int} (h : Told p w e r) (hr : r = (l, c, i)) :
    ∃ a ca v, e = .returned (.tuple #[.slice a l.length ca, v]) ∧ LiesAt w a l ∧ l.length ≤ ca ∧ ErrAt p w v c i := by
  subst hr
  exact h
theorem Told.fine {p : Nat → Addr} {w : World} {e : Ending} {r : List F × Nat × Int} {l : List F} (h : Told p w e r) (hr : r = (l, 0, -1)) :
    ∃ a ca, e = .returned (.tuple #[.slice a l.length ca, .nilIface]) ∧ LiesAt w a l ∧ l.length ≤ ca := by
  obtain ⟨a, ca, v, he, hl, hc, hv⟩ := h.open hr
  have := hv.isNil
  subst this
  exact ⟨a, ca, he, hl, hc⟩
theorem Told.bad {p : Nat → Addr} {w : World} {e : Ending} {r : List F × Nat × Int} {c : Nat} {i : Int} (h : Told p w e r) (hr : r = ([], c, i)) (hc : c ≠ 0) :
    ∃ a ca T u, e = .returned (.tuple #[.slice a 0 ca, .iface T u]) ∧ ErrAt p w (.iface T u) c i := by
  obtain ⟨a, ca, v, he, hl, hca, hv⟩ := h.open hr
  obtain ⟨T, u, rfl⟩ := hv.some hc
  exact ⟨a, ca, T, u, he, hv⟩

/-- What a function of the package tells, with what it comes to. -/
theorem told_open {f : Nat} {args : Array Value} {p : Nat → Addr} {W : World} {r : List F × Nat × Int} {T : List F} {c : Nat} {i : Int} (h : Calls Tryz.prog f args W fun e w' => Told p w' e r ∧ Below W.heap.size W w') (hr : r = (T, c, i)) :
    Calls Tryz.prog f args W fun e w' => (∃ a ca v, e = .returned (.tuple #[.slice a T.length ca, v]) ∧ LiesAt w' a T ∧ ErrAt p w' v c i) ∧ Below W.heap.size W w' :=
  h.mono fun e w' ⟨ht, hb⟩ => by
    obtain ⟨a, ca, v, he, hl, _, hv⟩ := ht.open hr
    exact ⟨⟨a, ca, v, he, hl, hv⟩, hb⟩
/-- What the document's answer is, with what it comes to. -/
theorem ref_open {f : Nat} {args : Array Value} {W : World} {r : List F × Nat × Int} {T : List F} {c : Nat} {i : Int} (h : Calls Tryz.prog f args W fun e w' => (∃ v, e = .returned (.tuple #[v, .agg #[.int .i64 r.2.1, .int .i64 r.2.2]]) ∧ w'.ownsRow W.heap.size 103 3 v r.1.length (lcells r.1)) ∧ Below W.heap.size W w') (hr : r = (T, c, i)) :
    Calls Tryz.prog f args W fun e w' => (∃ a ca, e = .returned (.tuple #[.slice a T.length ca, .agg #[.int .i64 c, .int .i64 i]]) ∧ LiesAt w' a T) ∧ Below W.heap.size W w' :=
  h.mono fun e w' ⟨⟨v, he, ho⟩, hb⟩ => by
    subst hr
    obtain ⟨a, ca, rfl, hl, _⟩ := owns_lies ho
    exact ⟨⟨a, ca, he, hl⟩, hb⟩
end Go.Proofs.YtmcfkoenpikldaaGreatDoor
/-
  Package pack: Read tells of every text what the plain function tells: over this seat's translation.
-/
namespace Go.Proofs.YtmcfkoenpikldaaGreatDoor
open Go.RowKit Go.Shelf

theorem cutV_none {s : List UInt8} (h : cutFileL s = none) : cutV s = .tuple #[fv ⟨[], false, []⟩, sv [], .bool false] := by unfold cutV; rw [h]
theorem cutV_some {s r : List UInt8} {f : F} (h : cutFileL s = some (f, r)) : cutV s = .tuple #[fv f, sv r, .bool true] := by unfold cutV; rw [h]

theorem small_pack {l : List F} (h : (packL l).length ≤ 20000) : Small l :=
  ⟨by have := pack_count l; omega, fun f hf => by have := (pack_mem hf).1; omega, fun f hf => by have := (pack_mem hf).2; omega⟩

theorem owns_files {w : World} {base : Nat} {v : Value} {l : List F} (h : w.ownsRow base 103 3 v l.length (lcells l)) : ∃ a cap, v = .slice a l.length cap ∧ LiesAt w a l ∧ l.length ≤ cap := by
  obtain ⟨a, cap, rfl, hl, hn⟩ := owns_lies h
  refine ⟨a, cap, rfl, hl, ?_⟩
  rcases h.2 with ⟨h0, h1⟩ | ⟨g, c, cur, h0, _, _, h1, _⟩
  · omega
  · cases h0
    exact h1

set_option maxRecDepth 100000 in
set_option maxHeartbeats 4000000 in
theorem packRead_any (p : Nat → Addr) (s : List UInt8) (w : World) (hE : Env p w) (hS : SEnv p w) (hl : s.length ≤ 90000) :
    Calls Tryz.prog 109 #[.string ⟨s.toArray⟩] w fun e w' => Told p w' e (readP s) ∧ Below w.heap.size w w' := by
  by_cases hlong : 20000 < s.length
  · have HT := Lib.hid (readP_long hlong)
    have hlong' : (20000 : Int) < (s.length : Int) := by omega
    have s1 := hE.s1
    clear hE hS
    go_enter Tryz.func109, Tryz.ntmps109
    go_wp2_with fail
    go_region
    go_wp2
    go_ret2
    exact ⟨by rw [HT.out]; exact told_none (.inr (.inl ⟨1, rfl, by omega, rfl, rfl⟩)), (Below.refl _ _).drew⟩
  · have hlong' : ¬ (20000 : Int) < (s.length : Int) := by omega
    have HE : Hid (Env p w) := hE
    have HS : Hid (SEnv p w) := hS
    clear hE hS
    obtain ⟨i0, hi, hz0, hz1, hz2⟩ := info_parts Tryz.infoFile
    go_enter Tryz.func109, Tryz.ntmps109
    go_wp2_with fail
    go_loopw [4, 5] (fun out rest wr => ∃ (fs : List F) (r : List UInt8), rest = .string ⟨r.toArray⟩ ∧ packL fs ++ r = s ∧ readA s = (fs ++ (readA r).1, (readA r).2) ∧ wr.ownsRow w.heap.size 103 3 out fs.length (lcells fs) ∧ Below w.heap.size w wr) (fun _ rest _ => strLen rest)
    case atStart => exact ⟨[], s, rfl, rfl, by simp, World.ownsRow_nil _ _ _ _, Below.refl _ _⟩
    case round =>
      obtain ⟨fs, r, rfl, hsr, hra, hrow, hb⟩ := hrel
      have HSR := Lib.hid hsr
      have HRA := Lib.hid hra
      have HB := Lib.hid hb
      have hbs := hb.size
      have hlr : r.length + (packL fs).length = s.length := by rw [← hsr, List.length_append]; omega
      have hpc := pack_count fs
      clear hsr hra hb
      cases r with
      | nil =>
        have hfs : readA s = (fs, true) := by rw [HRA.out, readA_nil]; simp
        have HFS := Lib.hid hfs
        obtain ⟨a, ca, rfl, hla, hca⟩ := owns_files hrow
        have HLA := Lib.hid hla
        have hsm : Small fs := small_pack (by omega)
        have HSM := Lib.hid hsm
        clear hfs hla hsm
        go_wp2_with fail
        refine (checkTree_any p fs a ca _ (HE.out.below HB.out) HLA.out hca HSM.out).mono ?_
        rintro e w1 ⟨⟨v, rfl, hv⟩, hb1⟩
        have HB1 := Lib.hid (HB.out.trans (hb1.mono HB.out.size))
        by_cases hz : (treeFault fs).1 = 0
        · have hT := readP_fine (s := s) (by omega) (by rw [HFS.out]) (by rw [HFS.out]; exact hz)
          rw [HFS.out] at hT
          have HT := Lib.hid hT
          rw [hz] at hv
          have := hv.isNil
          subst this
          have HLB := Lib.hid (HLA.out.below hb1)
          clear hT hv hz hb1
          go_wp2
          go_ret2
          exact ⟨by rw [HT.out]; exact ⟨a, ca, _, rfl, HLB.out, hca, ErrAt.fine p _⟩, HB1.out⟩
        · have hT := readP_fault (s := s) (by omega) (by rw [HFS.out]) (by rw [HFS.out]; exact hz)
          rw [HFS.out] at hT
          have HT := Lib.hid hT
          obtain ⟨T, u, rfl⟩ := hv.some hz
          have HV := Lib.hid hv
          clear hT hv hz hb1
          go_wp2
          go_ret2
          exact ⟨by rw [HT.out]; exact told_none HV.out, HB1.out⟩
      | cons x r =>
        have hne : (x :: r) ≠ [] := by simp
        generalize x :: r = R at HSR HRA hlr hne ⊢
        have hne' : (R == []) = false := by simpa using hne
        go_wp2_with fail
        refine (cutFile_any p R _ (HS.out.below HB.out) (by omega)).mono ?_
        rintro e w1 ⟨rfl, hb1⟩
        have HB1 := Lib.hid (HB.out.trans (hb1.mono HB.out.size))
        have hs0 := (HE.out.below HB1.out).s0
        have hrow1 := owns_below hrow hb1
        have hsz1 := HB1.out.size
        cases hc : cutFileL R with
        | none =>
          have hT := readP_none (s := s) (by omega) (by rw [HRA.out, readA_bad hne hc])
          rw [HRA.out, readA_bad hne hc] at hT
          have HT : Hid (readP s = ([], 1, (fs.length : Int))) := by
            show readP s = _
            rw [hT]
            simp
          rw [cutV_none hc]
          obtain ⟨a, ca, rfl, hla, hca⟩ := owns_files hrow1
          clear hT hc hb1 hla
          go_wp2_with fail
          obtain ⟨W, hW⟩ : ∃ W, W = w1.alloc (.cells #[sv [], .bool false, sv []] 103) := ⟨_, rfl⟩
          have hBW : Below w1.heap.size w1 W := by rw [hW]; exact (Below.refl _ _).alloc (Nat.le_refl _) _
          have hg0 := (hBW.cell (p := ⟨6, 0, none⟩) (block_lt_of_cell hs0)).trans hs0
          have HBW := Lib.hid (HB1.out.trans (hBW.mono HB1.out.size))
          rw [← hW]
          clear hBW hW hs0 hrow hrow1
          go_region
          all_goals go_wp2
          all_goals go_ret2
          all_goals
            have hpc2 := pair_cells (w := W) (x := .int .i64 fs.length) (y := .iface 379 (.pointer (some (p 0)))) (T := 144) (Below.refl _ _)
            exact ⟨by rw [HT.out]; exact told_none (.inr (.inr ⟨0, _, _, rfl, by omega, rfl, hpc2.1, hpc2.2⟩)), (HBW.out.alloc HBW.out.size _).drew⟩
        | some y =>
          obtain ⟨f, r'⟩ := y
          have HSR2 : Hid (packL (fs ++ [f]) ++ r' = s) := by
            show packL (fs ++ [f]) ++ r' = s
            rw [packL_snoc, List.append_assoc, ← cutFile_some hc]
            exact HSR.out
          have HRA2 : Hid (readA s = ((fs ++ [f]) ++ (readA r').1, (readA r').2)) := by
            show readA s = _
            rw [HRA.out, readA_good hne hc]
            simp
          have hless := cutFile_less hc
          rw [cutV_some hc]
          clear hc hb1
          go_wp2_with (at_builtin; refine wpList_append_own _ rfl _ _ 43 rfl w.heap.size 103 i0 (.agg #[.string ⟨#[]⟩, .bool false, .string ⟨#[]⟩]) 3 40 Tryz.underlying43 hi hz0 hz1 hz2 rfl (by decide) _ _ _ rfl ((hrow1.alloc _).alloc _) ⟨w1.heap.size + 1, 0, none⟩ 1 1 (fcells f) rfl rfl (fun j u hu => by simpa using cells_new (w1.alloc (.cells #[sv f.p, .bool f.r, sv f.t] 103)) f 103 j u hu) (by simp [fcells, Value.oneCell']) (by unfold maxLen; omega) (by omega) (by simp; omega) ?_; intro v' w2 hown' hgrow _)
          have HB2 : Below w.heap.size w w2 := ((HB1.out.alloc hsz1 _).alloc (by simp; omega) _).grown hgrow (by simp; omega) (fun j ej => (hrow1.lt j ej).1)
          refine ⟨⟨fs ++ [f], r', rfl, HSR2.out, HRA2.out, ?_, HB2⟩, by rw [strLen_list, strLen_list]; omega⟩
          rw [lcells_app]
          simpa [lcells] using hown'
end Go.Proofs.YtmcfkoenpikldaaGreatDoor
