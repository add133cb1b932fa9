/-
  The document's answer for links: InTexts, LinkParts: contracts, over this seat's translation.
-/
import Derived.Test.YtmpfjambenkeeaaDoorRefMore
import Derived.Test.YtmpfjambenkeeaaDoorLinkPure
import Derived.Lib.Hide
namespace Go.Proofs.YtmpfjambenkeeaaDoor
open Go.RowKit Go.Shelf

theorem contains_take {k : List (List UInt8)} {s : List UInt8} {q : Nat} (hq : q < k.length) (h : (k.take q).contains s = false) (hx : k[q] ≠ s) : (k.take (q + 1)).contains s = false := by
  rw [List.take_succ_eq_append_getElem hq]
  simp only [List.contains_eq_mem, List.mem_append, List.mem_singleton, decide_eq_false_iff_not, not_or] at h ⊢
  exact ⟨h, fun e => hx e.symm⟩

set_option maxHeartbeats 1000000 in
theorem inTexts_any (s : List UInt8) (g o cap : Nat) (k : List (List UInt8)) (w : World) (hk : k.length ≤ 100000) (h : ∀ j (h : j < k.length), w.cell? ⟨g, o + j, none⟩ = some (.string ⟨(k[j]).toArray⟩)) :
    Calls Tryd.prog 23 #[.string ⟨s.toArray⟩, .slice (some ⟨g, o, none⟩) k.length cap] w fun e w' => e = .returned (.bool (decide (s ∈ k))) ∧ w' = w := by
  have H := Lib.hid h
  clear h
  go_enter Tryd.func23, Tryd.ntmps23
  go_wp2_with fail
  go_loop [5] (fun i => ∃ q : Nat, q ≤ k.length ∧ i = .int .i64 q ∧ (k.take q).contains s = false) (fun i => k.length - (intOf i).toNat)
  case atStart => exact ⟨0, by omega, rfl, by simp⟩
  case round =>
    obtain ⟨q, hq, rfl, hn⟩ := hrel
    have HN := Lib.hid hn
    clear hn
    by_cases hlt : q < k.length
    · have hc := H.out q hlt
      have hlt' : (q : Int) < (k.length : Int) := by omega
      by_cases hx : k[q] = s
      · have HF : Hid (decide (s ∈ k) = true) := by
          show decide (s ∈ k) = true
          rw [decide_eq_true_eq, ← hx]
          exact List.getElem_mem hlt
        rw [hx] at hc
        clear hx
        go_wp2
        go_ret
        exact ⟨ret_bool HF.out.symm, rfl⟩
      · have HF := Lib.hid (contains_take hlt HN.out hx)
        have hx' : (k[q] == s) = false := by simpa using hx
        clear hx
        generalize k[q] = x at hc hx'
        go_wp2
        go_round
        case rel => exact ⟨q + 1, by omega, by go_num, HF.out⟩
        case measure => simp [intOf]; omega
    · have hql : q = k.length := by omega
      have HF : Hid (decide (s ∈ k) = false) := by
        have := HN.out
        rw [hql, List.take_length, List.contains_eq_mem] at this
        exact this
      clear hql
      go_wp2
      go_ret
      exact ⟨ret_bool HF.out.symm, rfl⟩

theorem kinds_contains (k : List UInt8) : decide (k ∈ [[104, 116, 116, 112], [102, 116, 112], [102, 105, 108, (101 : UInt8)]]) = kindL k := by
  rw [← List.contains_eq_mem]
  simp only [kindL, List.contains_cons, List.contains_nil, Bool.or_false, Bool.or_assoc]

/-- Four results. -/
theorem results_tmp4 {fn : Func} {t u v x : Tmp} (h : fn.results = #[.tmp t, .tmp u, .tmp v, .tmp x]) (tmps : Array Value) (P : Program) (w : World) :
    (results fn tmps).run P w = .ok (.tuple #[tmps.getD t undef, tmps.getD u undef, tmps.getD v undef, tmps.getD x undef]) w := by
  simp [results, h]
theorem extract_from (l : List UInt8) (i : Nat) : ({ data := l.toArray } : ByteArray).extract i l.length = ⟨(l.drop i).toArray⟩ := by
  rw [extract_list, List.take_of_length_le (by rw [List.length_drop]; omega)]
theorem extract_to (l : List UInt8) (i : Nat) : ({ data := l.toArray } : ByteArray).extract 0 i = ⟨(l.take i).toArray⟩ := by
  rw [extract_list]; simp
theorem kinds_cells (w : World) (t : TypeId) : ∀ j (h : j < [[104, 116, 116, 112], [102, 116, 112], [102, 105, 108, (101 : UInt8)]].length),
    (w.alloc (.cells #[.string ⟨#[104, 116, 116, 112]⟩, .string ⟨#[102, 116, 112]⟩, .string ⟨#[102, 105, 108, 101]⟩] t)).cell? ⟨w.heap.size, 0 + j, none⟩ = some (.string ⟨([[104, 116, 116, 112], [102, 116, 112], [102, 105, 108, (101 : UInt8)]][j]).toArray⟩) := by
  intro j h
  simp at h
  rcases j with _ | _ | _ | j
  · simp
  · simp
  · simp
  · omega

theorem drawn_below' (w : World) (n : Nat) : Below w.heap.size w (w.drewN n) := ⟨rfl, rfl, rfl, Nat.le_refl _, fun _ _ => rfl⟩

set_option maxRecDepth 100000 in
set_option maxHeartbeats 4000000 in
theorem linkParts_any (s : List UInt8) (w : World) (hs : s.length ≤ 90000) :
    Calls Tryd.prog 15 #[.string ⟨s.toArray⟩] w fun e w' => (∃ k, e = .returned (.tuple #[.string k, .string ⟨(linkL s).1.toArray⟩, .string ⟨(linkL s).2.1.toArray⟩, .int .i64 (linkL s).2.2])) ∧ Below w.heap.size w w' := by
  go_enter Tryd.func15, Tryd.ntmps15
  go_wp2_with fail
  go_loop [6] (fun i => ∃ k : Nat, k ≤ s.length ∧ i = .int .i64 k ∧ cutM s = (cutM (s.drop k)).map fun ab => (s.take k ++ ab.1, ab.2)) (fun i => s.length - (intOf i).toNat)
  case atStart => exact ⟨0, by omega, rfl, by simp⟩
  case round =>
    obtain ⟨k, hk, rfl, hm⟩ := hrel
    have HM := Lib.hid hm
    clear hm
    by_cases hlt : k < s.length
    · cases hp : List.isPrefixOf [58, 47, 47] (s.drop k) with
      | false =>
        have HN := Lib.hid (cutM_step hlt HM.out hp)
        have HP : Hid (Lib.hasPrefix (s.drop k) [58, 47, 47] = false) := hp
        have hlt' : (k : Int) < s.length := by omega
        clear hp
        go_wp2_with fail
        rw [extract_from]
        refine (begins_any (s.drop k) [58, 47, 47] _ (by rw [List.length_drop]; omega) (by decide)).mono ?_
        rintro e w' ⟨rfl, rfl⟩
        rw [HP.out]
        go_wp2
        go_round
        case rel => exact ⟨k + 1, by omega, by go_num, HN.out⟩
        case measure => simp [intOf]; omega
      | true =>
        obtain ⟨hf, hk3⟩ := cutM_found HM.out hp
        have HF := Lib.hid hf
        have HP : Hid (Lib.hasPrefix (s.drop k) [58, 47, 47] = true) := hp
        have hlt' : (k : Int) < s.length := by omega
        have hne : ((k : Int) == s.length) = false := by rw [beq_eq_false_iff_ne]; omega
        clear hp hf
        go_wp2_with fail
        rw [extract_from]
        refine (begins_any (s.drop k) [58, 47, 47] _ (by rw [List.length_drop]; omega) (by decide)).mono ?_
        rintro e w' ⟨rfl, rfl⟩
        rw [HP.out]
        go_wp2_with fail
        go_loop [8] (fun kk => ∃ q : Nat, k + 3 ≤ q ∧ q ≤ s.length ∧ kk = .int .i64 q ∧ cutL (s.drop (k + 3)) = (cutL (s.drop q)).map fun ab => ((s.drop (k + 3)).take (q - (k + 3)) ++ ab.1, ab.2)) (fun kk => s.length - (intOf kk).toNat)
        case atStart => exact ⟨k + 3, by omega, by omega, by go_num, by simp⟩
        case round =>
          obtain ⟨q, hkq, hq, rfl, hc⟩ := hrel
          have HC := Lib.hid hc
          clear hc
          by_cases hlq : q < s.length
          · have hlq' : (q : Int) < s.length := by omega
            have hsz : q < ({ data := s.toArray } : ByteArray).size := by simpa [ByteArray.size] using hlq
            by_cases h47 : s[q] = 47
            · have hbyte : ((({ data := s.toArray } : ByteArray)[q]'hsz).toNat : Int) = 47 := by
                show ((s[q]).toNat : Int) = 47
                rw [h47]; rfl
              have HD := Lib.hid (cutL_found hlq HC.out h47)
              have hnq : ((q : Int) == s.length) = false := by rw [beq_eq_false_iff_ne]; omega
              clear h47
              go_wp2_with fail
              rw [extract_to]
              refine (inTexts_any (s.take k) _ 0 _ [[104, 116, 116, 112], [102, 116, 112], [102, 105, 108, 101]] _ (by decide) (kinds_cells _ _)).mono ?_
              rintro e w2 ⟨rfl, rfl⟩
              rw [kinds_contains]
              have hhl : ((s.drop (k + 3)).take (q - (k + 3))).length ≤ 100000 := by rw [List.length_take, List.length_drop]; omega
              cases hkd : kindL (s.take k) with
              | false =>
                have HR := Lib.hid (link_kind HF.out HD.out hkd)
                clear hkd
                go_wp2
                refine bodyPost_ret (results_tmp4 rfl _ _ _) rfl ?_
                exact ⟨⟨_, by rw [HR.out]; rfl⟩, (Below.refl _ _).alloc (Nat.le_refl _) _⟩
              | true =>
                cases hip : isPart ((s.drop (k + 3)).take (q - (k + 3))) with
                | false =>
                  have HR := Lib.hid (link_host HF.out HD.out hkd hip)
                  have HI := Lib.hid hip
                  clear hkd hip
                  go_wp2_with fail
                  rw [extract_list]
                  refine (refIsPart_is _ false _ hhl HI.out).mono ?_
                  rintro e w3 ⟨rfl, rfl⟩
                  go_wp2
                  refine bodyPost_ret (results_tmp4 rfl _ _ _) rfl ?_
                  exact ⟨⟨_, by rw [HR.out]; rfl⟩, (Below.refl _ _).alloc (Nat.le_refl _) _⟩
                | true =>
                  have HR := Lib.hid (link_ok HF.out HD.out hkd hip)
                  have HI := Lib.hid hip
                  clear hkd hip
                  go_wp2_with fail
                  rw [extract_list]
                  refine (refIsPart_is _ true _ hhl HI.out).mono ?_
                  rintro e w3 ⟨rfl, rfl⟩
                  have g1 : (k : Int) + 3 ≤ q := by omega
                  have g2 : (q : Int) + 1 ≤ s.length := by omega
                  go_wp2_with fail
                  go_quiet (fail)
                  go_wp2
                  refine bodyPost_ret (results_tmp4 rfl _ _ _) rfl ?_
                  refine ⟨⟨({ data := s.toArray } : ByteArray).extract 0 k, ?_⟩, ?_⟩
                  · show Ending.returned (.tuple #[.string (({ data := s.toArray } : ByteArray).extract 0 k), .string (({ data := s.toArray } : ByteArray).extract (k + 3) q), .string (({ data := s.toArray } : ByteArray).extract (q + 1) s.length), .int .i64 0]) = _
                    rw [HR.out, extract_list s (k + 3) q, extract_from]
                    rfl
                  · exact ((Below.refl _ _).alloc (Nat.le_refl _) _).trans ((drawn_below' _ _).mono (by simp))
            · have hbyte : ¬ ((({ data := s.toArray } : ByteArray)[q]'hsz).toNat : Int) = 47 := by
                show ¬ ((s[q]).toNat : Int) = 47
                intro e
                apply h47
                apply UInt8.toNat_inj.1
                have : (47 : UInt8).toNat = 47 := rfl
                omega
              have HD := Lib.hid (cutL_step hkq hlq HC.out h47)
              clear h47
              go_wp2
              go_round
              case rel => exact ⟨q + 1, by omega, by omega, by go_num, HD.out⟩
              case measure => simp [intOf]; omega
          · have hql : q = s.length := by omega
            subst hql
            have HR := Lib.hid (link_end HF.out (cutL_lost HC.out))
            clear hlq
            go_wp2
            refine bodyPost_ret (results_tmp4 rfl _ _ _) rfl ?_
            exact ⟨⟨_, by rw [HR.out]; rfl⟩, Below.refl _ _⟩
    · have hkl : k = s.length := by omega
      subst hkl
      have HR := Lib.hid (link_no (cutM_lost HM.out))
      clear hlt
      go_wp2
      refine bodyPost_ret (results_tmp4 rfl _ _ _) rfl ?_
      exact ⟨⟨_, by rw [HR.out]; rfl⟩, Below.refl _ _⟩
end Go.Proofs.YtmpfjambenkeeaaDoor
