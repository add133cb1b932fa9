/-
  The law package's OwnRules: rules in memory of their own: over this seat's translation.
-/
import Derived.Test.YtmpfjambenkeeaaDoorLawRules
namespace Go.Proofs.YtmpfjambenkeeaaDoor
open Go.RowKit Go.Shelf

/-- Rules in memory of a call's own, and their texts too. -/
structure OwnedRules (base : Nat) (w : World) (v : Value) (l : List Ru) : Prop where
  row : w.ownsRow base 45 2 v l.length (rlcells l)
  texts : ∀ r ∈ l, w.ownsRow base 9 1 (.slice r.a r.t.length r.c) r.t.length (r.t.map sv)
theorem OwnedRules.below {base : Nat} {w w' : World} {v : Value} {l : List Ru} (h : OwnedRules base w v l) (hb : Below w.heap.size w w') : OwnedRules base w' v l := ⟨row_below h.row hb, fun r hr => row_below (h.texts r hr) hb⟩
theorem owned_lies {base : Nat} {w : World} {r : Ru} (h : w.ownsRow base 9 1 (.slice r.a r.t.length r.c) r.t.length (r.t.map sv)) : r.Lies w := by
  obtain ⟨a, cap, hv, h1, h2, h3⟩ := texts_of_owns h
  obtain ⟨f, t, ra, rc⟩ := r
  simp only at hv h1 h2 h3
  cases hv
  exact ⟨h1, h2, h3⟩
theorem OwnedRules.rules {base : Nat} {w : World} {v : Value} {l : List Ru} (h : OwnedRules base w v l) : ∃ a cap, v = .slice a l.length cap ∧ RulesAt w a l ∧ l.length ≤ cap ∧ (a = none → cap = 0 ∧ l = []) :=
  rules_of_owns h.row fun r hr => owned_lies (h.texts r hr)
theorem small_of_q {l m : List Ru} (e : m.map Ru.q = l.map Ru.q) (h : RuSmall l) : RuSmall m := by
  have hm : ∀ r ∈ m, ∃ x ∈ l, x.q = r.q := fun r hr => by
    have : r.q ∈ l.map Ru.q := by rw [← e]; exact List.mem_map_of_mem hr
    obtain ⟨x, hx, ex⟩ := List.mem_map.1 this
    exact ⟨x, hx, ex⟩
  have hlen : m.length = l.length := by simpa using congrArg List.length e
  refine ⟨by rw [hlen]; exact h.few, fun r hr => ?_, fun r hr => ?_, fun r hr => ?_⟩
  · obtain ⟨x, hx, ex⟩ := hm r hr
    have e1 : x.f = r.f := congrArg Prod.fst ex
    rw [← e1]; exact h.begin x hx
  · obtain ⟨x, hx, ex⟩ := hm r hr
    have e1 : x.t = r.t := congrArg Prod.snd ex
    rw [← e1]; exact h.many x hx
  · obtain ⟨x, hx, ex⟩ := hm r hr
    have e1 : x.t = r.t := congrArg Prod.snd ex
    rw [← e1]; exact h.texts x hx

/-- What lies in a block of another kind is kept when a row grows. -/
theorem row_other {w w1 w2 : World} {n n' size size' k k' : Nat} {e e' : TypeId} {v v' : Value} {xs xs' : List Value} (hrow : w.ownsRow n e size v k xs) (htx : w.ownsRow n' e' size' v' k' xs') (hne : e ≠ e')
    (hk : ∀ g, g < w.heap.size → w1.heap[g]? = w.heap[g]?) (hs : w.heap.size ≤ w1.heap.size) (hg : w1.grownBy w2 v.ownBlock) : w2.ownsRow n' e' size' v' k' xs' := by
  refine ⟨htx.1, ?_⟩
  rcases htx.2 with h0 | ⟨g, cap, cur, hv, hgb, hh, h1, h2, h3, h4⟩
  · exact .inl h0
  · refine .inr ⟨g, cap, cur, hv, hgb, ?_, h1, h2, h3, h4⟩
    have hlt := (Array.getElem?_eq_some_iff.1 hh).1
    have hno : some g ≠ v.ownBlock := by
      intro hb
      rcases hrow.2 with ⟨rfl, _⟩ | ⟨g', cap', cur', rfl, _, hh', _⟩
      · cases hb
      · have : g = g' := Option.some.inj hb
        subst this
        rw [hh] at hh'
        exact hne (by cases hh'; rfl)
    rw [hg.block g (by omega) hno, hk g hlt]
    exact hh
theorem rule_new (w : World) (r : Ru) (T : TypeId) : ∀ j u, (rucells r)[j]? = some u → (w.alloc (.cells #[sv r.f, .slice r.a r.t.length r.c] T)).cell? ((⟨w.heap.size, 0, none⟩ : Addr).add j) = some u := by
  intro j u h
  have hn := heap_new w (.cells #[sv r.f, .slice r.a r.t.length r.c] T)
  rw [Addr.add_lit]
  simp only [World.cell?, hn, Nat.zero_add]
  rcases j with _ | _ | j
  · exact h
  · exact h
  · simp [rucells] at h
theorem Two.set1 {w : World} {b : Nat} {x y : Value} {T : TypeId} (h : Two w b x y T) (y' : Value) : Two (w.setCell ⟨b, 1, none⟩ y') b x y' T := by
  unfold Two at h ⊢
  simp only [World.setCell, Array.getElem?_modify, if_true, h, Option.map_some]
  rfl
theorem heap_set1 {w : World} {b g : Nat} (y : Value) (h : g ≠ b) : (w.setCell ⟨b, 1, none⟩ y).heap[g]? = w.heap[g]? := Below.heap_setCell _ _ _ _ (by show g ≠ b; exact h)

/-- Behind the copy of a rule: what is kept. -/
theorem kept_row {wr W2 : World} {m n : Nat} {e : TypeId} {size : Nat} {v : Value} {k : Nat} {xs : List Value} {o : Obj} {y : Value} (h : wr.ownsRow n e size v k xs) (hm : m = wr.heap.size) (hg : (wr.alloc o).grownBy W2 none) : (W2.setCell ⟨m, 1, none⟩ y).ownsRow n e size v k xs :=
  row_keep h fun g _ hlt => by
    rw [heap_set1 _ (by omega), hg.block g (by simp; omega) (by simp), Below.heap_alloc _ _ _ hlt]

set_option maxRecDepth 100000 in
set_option maxHeartbeats 8000000 in
theorem ownRules_any (l : List Ru) (a : Option Addr) (ca : Nat) (w : World) (hl : RulesAt w a l) (hs : RuSmall l) :
    Calls Tryd.prog 24 #[.slice a l.length ca] w fun e w' => (∃ v m, e = .returned v ∧ m.map Ru.q = l.map Ru.q ∧ OwnedRules w.heap.size w' v m) ∧ Below w.heap.size w w' := by
  obtain ⟨i0, hi, hz0, hz1, hz2⟩ := info_parts Tryd.info9
  obtain ⟨j0, hj, hy0, hy1, hy2⟩ := info_parts Tryd.infoRule
  have hfew := hs.few
  have HL := Lib.hid hl
  have HS := Lib.hid hs
  clear hl hs
  go_enter Tryd.func24, Tryd.ntmps24
  go_wp2_with fail
  go_loopw [3, 4] (fun v i wr => ∃ (q : Nat) (m : List Ru), q ≤ l.length ∧ i = .int .i64 q ∧ m.map Ru.q = (l.take q).map Ru.q ∧ m.length = q ∧ OwnedRules w.heap.size wr v m ∧ Below w.heap.size w wr) (fun _ i _ => l.length - (intOf i).toNat)
  case atStart => exact ⟨0, [], by omega, rfl, by simp, rfl, ⟨World.ownsRow_nil _ _ _ _, fun r hr => by simp at hr⟩, Below.refl _ _⟩
  case round =>
    obtain ⟨q, m, hq, rfl, hmq, hml, hown, hb⟩ := hrel
    have HB := Lib.hid hb
    have HMQ := Lib.hid hmq
    have HML := Lib.hid hml
    have HOW := Lib.hid hown
    have hbs := hb.size
    have hrow := hown.row
    clear hb hmq hown
    by_cases hlt : q < l.length
    · have hlt' : (q : Int) < (l.length : Int) := by omega
      have hlw := HL.out.below HB.out
      have hrl := hlw.each _ (List.getElem_mem hlt)
      obtain ⟨b, o, rfl, c0, c1⟩ := hlw.at hlt
      have hnl := HS.out.many _ (List.getElem_mem hlt)
      have HNX : Hid (∀ x : Ru, x.q = l[q].q → (m ++ [x]).map Ru.q = (l.take (q + 1)).map Ru.q) := by
        intro x hx
        rw [List.take_succ_eq_append_getElem hlt, List.map_append, List.map_append, HMQ.out]
        simp [hx]
      clear hlw
      generalize l[q] = r at c0 c1 hnl hrl HNX
      obtain ⟨f, t, ta, tc⟩ := r
      simp only at c0 c1 hnl
      have HT := Lib.hid hrl.texts
      have hnil := hrl.nil
      simp only at hnil HT
      clear hrl
      cases ta with
      | none =>
        obtain ⟨rfl, rfl⟩ := hnil rfl
        clear hnil
        have hTN := Two.new wr (.string ⟨f.toArray⟩) (.slice none 0 0) 45
        have HK := Lib.hid (hrow.alloc (.cells #[.string ⟨f.toArray⟩, .slice none 0 0] 45))
        have HKT := Lib.hid (fun x (hx : x ∈ m) => (HOW.out.texts x hx).alloc (.cells #[.string ⟨f.toArray⟩, .slice none 0 0] 45))
        have HKN : Hid ((wr.alloc (.cells #[.string ⟨f.toArray⟩, .slice none 0 0] 45)).ownsRow w.heap.size 9 1 (.slice none 0 0) 0 ([].map sv)) := World.ownsRow_nil _ _ _ _
        have HB3 : Hid (Below w.heap.size w (wr.alloc (.cells #[.string ⟨f.toArray⟩, .slice none 0 0] 45))) := HB.out.alloc hbs _
        obtain ⟨x0, x1, x2, x3⟩ := hTN.cells
        clear hTN
        simp only [List.length_nil] at c1
        go_wp2_with (first | (at_builtin; refine wpList_append_own_none _ rfl _ _ 34 rfl (wr.heap.size + 1) 9 i0 1 Tryd.underlying34 hi (.slice none 0 0) 0 [] rfl (World.ownsRow_nil _ _ _ _) rfl ?_) | (at_builtin; refine wpList_append_own _ rfl _ _ 39 rfl w.heap.size 45 j0 (.agg #[.string ⟨#[]⟩, .slice none 0 0]) 2 40 Tryd.underlying39 hj hy0 hy1 hy2 rfl (by decide) _ _ _ rfl (HK.out.alloc _) ⟨wr.heap.size + 1, 0, none⟩ 1 1 (rucells (⟨f, [], none, 0⟩ : Ru)) rfl rfl (fun j u hu => by simpa using rule_new (wr.alloc (.cells #[.string ⟨f.toArray⟩, .slice none 0 0] 45)) (⟨f, [], none, 0⟩ : Ru) 45 j u hu) (by simp [rucells, Value.oneCell']) (by unfold maxLen; omega) (by omega) (by simp; omega) ?_; intro v2 W4 hown2 hgrow2 _))
        have hk3 : ∀ (o : Obj) g, g < (wr.alloc (.cells #[.string ⟨f.toArray⟩, .slice none 0 0] 45)).heap.size → ((wr.alloc (.cells #[.string ⟨f.toArray⟩, .slice none 0 0] 45)).alloc o).heap[g]? = (wr.alloc (.cells #[.string ⟨f.toArray⟩, .slice none 0 0] 45)).heap[g]? := fun o g hg => Below.heap_alloc _ _ _ hg
        go_roundw
        case rel =>
          refine ⟨q + 1, m ++ [(⟨f, [], none, 0⟩ : Ru)], by omega, by go_num, HNX.out _ rfl, by simp; omega, ⟨?_, ?_⟩, ?_⟩
          · rw [List.length_append, rlcells_app]
            simpa [rlcells] using hown2
          · intro x hx
            rcases List.mem_append.1 hx with hx | hx
            · exact row_other HK.out (HKT.out x hx) (by decide) (hk3 _) (by simp) hgrow2
            · obtain rfl := List.mem_singleton.1 hx
              exact row_other HK.out HKN.out (by decide) (hk3 _) (by simp) hgrow2
          · exact (HB3.out.alloc HB3.out.size _).grown hgrow2 (by have := HB3.out.size; simp at this ⊢; omega) (fun k e => (HK.out.lt k e).1)
        case measure => simp [intOf]; omega
      | some ad =>
        clear hnil
        have HNEWS := Lib.hid (HT.out.below ((Below.refl _ _).alloc (Nat.le_refl _) (.cells #[.string ⟨f.toArray⟩, .slice (some ad) t.length tc] 45))).news
        go_wp2_with (first | (at_builtin; refine wpList_append_own _ rfl _ _ 34 rfl (wr.heap.size + 1) 9 i0 (.string ⟨#[]⟩) 1 16 Tryd.underlying34 hi hz0 hz1 hz2 rfl (by decide) (.slice none 0 0) 0 [] rfl (World.ownsRow_nil _ _ _ _) ad t.length tc (t.map sv) rfl (by simp) HNEWS.out (texts_one t) (by unfold maxLen; omega) (by omega) (by simp) ?_; intro v' W2 hown' hgrow' _; obtain ⟨a', c', e'⟩ : ∃ a' c', v' = .slice a' t.length c' := (by obtain ⟨a', c', h⟩ := ownsRow_slice hown'; exact ⟨a', c', by rw [h, Nat.zero_add]⟩); subst e'; have hTN : Two W2 wr.heap.size (.string ⟨f.toArray⟩) (.slice (some ad) t.length tc) 45 := (Two.new wr _ _ _).keep (hgrow'.block _ (by simp) (by simp [Value.ownBlock])); have HK := Lib.hid (kept_row (m := wr.heap.size) (y := .slice a' t.length c') hrow rfl hgrow'); have HKT := Lib.hid (fun x (hx : x ∈ m) => kept_row (m := wr.heap.size) (y := .slice a' t.length c') (HOW.out.texts x hx) rfl hgrow'); have HKN : Hid ((W2.setCell ⟨wr.heap.size, 1, none⟩ (.slice a' t.length c')).ownsRow w.heap.size 9 1 (.slice a' t.length c') t.length (t.map sv)) := (by have h1 : W2.ownsRow (wr.heap.size + 1) 9 1 (.slice a' t.length c') t.length (t.map sv) := (by simpa using hown'); exact (row_keep (w' := (W2.setCell ⟨wr.heap.size, 1, none⟩ (.slice a' t.length c'))) h1 (fun g hg _ => heap_set1 _ (by omega))).mono (by omega)); have HB3 : Hid (Below w.heap.size w (W2.setCell ⟨wr.heap.size, 1, none⟩ (.slice a' t.length c'))) := ((HB.out.alloc hbs _).grown hgrow' (by simp; omega) (fun k e => by cases e)).setCell (p := ⟨wr.heap.size, 1, none⟩) hbs _; obtain ⟨y0, y1, _, _⟩ := (hTN.set1 (.slice a' t.length c')).cells; obtain ⟨x0, x1, x2, x3⟩ := hTN.cells; have hs2 : wr.heap.size + 1 ≤ W2.heap.size := (by simpa using hgrow'.size); clear hTN hown' hgrow') | (at_builtin; refine wpList_append_own _ rfl _ _ 39 rfl w.heap.size 45 j0 (.agg #[.string ⟨#[]⟩, .slice none 0 0]) 2 40 Tryd.underlying39 hj hy0 hy1 hy2 rfl (by decide) _ _ _ rfl (HK.out.alloc _) ⟨W2.heap.size, 0, none⟩ 1 1 (rucells (⟨f, t, a', c'⟩ : Ru)) rfl rfl (fun j u hu => by simpa using rule_new (W2.setCell ⟨wr.heap.size, 1, none⟩ (.slice a' t.length c')) (⟨f, t, a', c'⟩ : Ru) 45 j u hu) (by simp [rucells, Value.oneCell']) (by unfold maxLen; omega) (by omega) (by simp; omega) ?_; intro v2 W4 hown2 hgrow2 _))
        have hk3 : ∀ (o : Obj) g, g < (W2.setCell ⟨wr.heap.size, 1, none⟩ (.slice a' t.length c')).heap.size → ((W2.setCell ⟨wr.heap.size, 1, none⟩ (.slice a' t.length c')).alloc o).heap[g]? = (W2.setCell ⟨wr.heap.size, 1, none⟩ (.slice a' t.length c')).heap[g]? := fun o g hg => Below.heap_alloc _ _ _ hg
        go_roundw
        case rel =>
          refine ⟨q + 1, m ++ [(⟨f, t, a', c'⟩ : Ru)], by omega, by go_num, HNX.out _ rfl, by simp; omega, ⟨?_, ?_⟩, ?_⟩
          · rw [List.length_append, rlcells_app]
            simpa [rlcells] using hown2
          · intro x hx
            rcases List.mem_append.1 hx with hx | hx
            · exact row_other HK.out (HKT.out x hx) (by decide) (hk3 _) (by simp) hgrow2
            · obtain rfl := List.mem_singleton.1 hx
              exact row_other HK.out HKN.out (by decide) (hk3 _) (by simp) hgrow2
          · exact (HB3.out.alloc HB3.out.size _).grown hgrow2 (by have := HB3.out.size; simp at this ⊢; omega) (fun k e => (HK.out.lt k e).1)
        case measure => simp [intOf]; omega
    · obtain rfl : q = l.length := by omega
      have HF : Hid (m.map Ru.q = l.map Ru.q) := by have := HMQ.out; rwa [List.take_length] at this
      go_wp2
      go_ret
      exact ⟨⟨_, m, rfl, HF.out, HOW.out⟩, HB.out⟩
end Go.Proofs.YtmpfjambenkeeaaDoor
