
/- dn: a copy of a name, Up; walked. -/
import Derived.Test.YtjnibkgbcgpigaaDoorN39
namespace Go.Proofs.YtjnibkgbcgpigaaDoor
open Go.RowKit Go.Shelf
set_option linter.unusedVariables false
set_option linter.unusedSimpArgs false
set_option maxRecDepth 100000

theorem dnCells_inv : ∀ (d : List Part6) (j : Nat) (u : Value), (dnCells d)[j]? = some u → ∃ i p, d[i]? = some p ∧ (j = i * 2 ∧ u = tv p.1 ∨ j = i * 2 + 1 ∧ u = tv p.2)
  | [], j, u, h => by simp [dnCells] at h
  | q :: r, 0, u, h => by
    have e : dnCells (q :: r) = tv q.1 :: tv q.2 :: dnCells r := rfl
    rw [e] at h
    simp at h
    exact ⟨0, q, rfl, .inl ⟨rfl, h.symm⟩⟩
  | q :: r, 1, u, h => by
    have e : dnCells (q :: r) = tv q.1 :: tv q.2 :: dnCells r := rfl
    rw [e] at h
    simp at h
    exact ⟨0, q, rfl, .inr ⟨rfl, h.symm⟩⟩
  | q :: r, j + 2, u, h => by
    have e : dnCells (q :: r) = tv q.1 :: tv q.2 :: dnCells r := rfl
    rw [e] at h
    obtain ⟨i, p, h1, h2⟩ := dnCells_inv r j u (by simpa using h)
    refine ⟨i + 1, p, by simpa using h1, ?_⟩
    rcases h2 with ⟨h2, h3⟩ | ⟨h2, h3⟩
    · exact .inl ⟨by omega, h3⟩
    · exact .inr ⟨by omega, h3⟩
theorem DnIn.src {w : World} {A : Option Addr} {n : Nat} {d : List Part6} (h : DnIn w A n d) : Src w A n (dnCells d) := by
  obtain ⟨h1, h2, h3⟩ := h
  refine ⟨fun hA => ?_, fun ad hA j u hu => ?_⟩
  · rcases Nat.eq_zero_or_pos n with h0 | h0
    · exact h0
    · obtain ⟨b, o, e, _⟩ := h3 h0
      rw [e] at hA
      cases hA
  · obtain ⟨i, p, hi, hj⟩ := dnCells_inv d j u hu
    have hin := (List.getElem?_eq_some_iff.1 hi).1
    obtain ⟨b, o, e, hc⟩ := h3 (by omega)
    rw [hA] at e
    injection e with e
    subst e
    obtain ⟨c0, c1⟩ := hc i p hi
    rw [show (⟨b, o, none⟩ : Addr).add j = ⟨b, o + j, none⟩ from by unfold Addr.add; split <;> simp_all]
    rcases hj with ⟨rfl, rfl⟩ | ⟨rfl, rfl⟩
    · exact c0
    · rw [← Nat.add_assoc]; exact c1
theorem dnCells_one (d : List Part6) : ∀ u ∈ dnCells d, u.oneCell' = true := by
  intro u hu
  obtain ⟨j, hj⟩ := List.mem_iff_getElem?.1 hu
  obtain ⟨i, p, _, h⟩ := dnCells_inv d j u hj
  rcases h with ⟨_, rfl⟩ | ⟨_, rfl⟩ <;> rfl
theorem DnV.of_own {w : World} {B n c : Nat} {A : Option Addr} {t : TypeId} {d : List Part6} (h : w.ownsRow B t 2 (.slice A n c) n (dnCells d)) (hn : d.length = n) (hl : ∀ p ∈ d, p.1.length ≤ 9223372036854775807 ∧ p.2.length ≤ 9223372036854775807) (hb : n ≤ 4611686018427387904) : DnV w A n c d := by
  refine ⟨DnIn.of_own h hn hl, ?_⟩
  rcases h.2 with ⟨h1, h2⟩ | ⟨g, cap, cur, hA, hg, hh, hc, hm, r⟩
  · injection h1 with _ _ e3
    omega
  · injection hA with _ _ e3
    unfold maxLen at hm
    exact ⟨by omega, by omega, hb⟩

set_option maxHeartbeats 4000000 in
theorem clone6_is (A : Option Addr) (n c : Nat) (d : List Part6) (w : World) (h : DnV w A n c d) (hn : n ≤ 1000000000) :
    Calls Tryd.prog 42 #[.slice A n c] w fun e w' => ∃ C e', e = .returned (.slice C n e') ∧ DnV w' C n e' d ∧ Keeps [] w w' := by
  obtain ⟨iu, hiu, hzu0, hzu1, hzu2⟩ := info_parts rdn_info
  have HS := Lib.hid h.1.src
  have HL : Hid ((dnCells d).length = n * 2) := by show _ = _; rw [dnCells_len, h.1.1]
  have HLL : Hid (d.length = n) := h.1.1
  have HPP := Lib.hid h.1.2.1
  have hq := fun (W : World) (a : Option Addr) (n c : Nat) => Lib.run_eql_slice_nil (P := Tryd.prog) W 23 38 a n c 0 0 Tryd.underlying23
  clear h
  rcases A with _ | ad
  · have hz : n = 0 := HS.out.1 rfl
    subst hz
    have hd : d = [] := List.length_eq_zero_iff.1 HLL.out
    subst hd
    go_enter Tryd.func42, Tryd.ntmps42
    go_wp2_with fail
    go_ret
    exact ⟨_, _, rfl, ⟨⟨rfl, (fun p hp => by cases hp), fun h => by omega⟩, by omega, by omega, by omega⟩, Keeps.refl _ _⟩
  · have HSR : Hid (∀ o, Src (w.alloc o) (some ad) n (dnCells d)) := fun o => by
      refine ⟨fun h => by simp at h, fun a' ha j u hu => ?_⟩
      have h9 := HS.out.2 a' ha j u hu
      exact (((Keeps.refl [] w).alloc o).cell (lt_of_cell h9) (by simp)).trans h9
    go_enter Tryd.func42, Tryd.ntmps42
    go_wp2_with (at_builtin; refine wpList_append_opt rfl (.tmp 5) (.tmp 6) 23 rfl w.heap.size 38 iu _ 2 32 Tryd.underlying23 hiu hzu0 hzu1 hzu2 rfl (by decide) (.slice (some ⟨w.heap.size, 0, none⟩) 0 0) 0 [] rfl (World.ownsRow_made w #[] 0 (Nat.le_refl _) (by unfold maxLen; omega) rfl) (some ad) n c (dnCells d) rfl HL.out (HSR.out _) (dnCells_one d) (by unfold maxLen; omega) (by omega) (by simp) ?_; intro v1 w1 ho1 hg1 hs1; obtain ⟨A1, c1, hv1⟩ := own_slice ho1; subst hv1; have HG1 := Lib.hid (Keeps.trans ((Keeps.refl [] w).alloc (.cells #[] 38)) (Keeps.of_grown (bs := [w.heap.size]) hg1 (fun x hx => .inl (by simp [Value.ownBlock] at hx; simp [hx]))) (fun y hy => .inr (by rw [List.mem_singleton.1 hy]; exact Nat.le_refl _))); have HO1 : Hid (w1.ownsRow w.heap.size 38 2 (.slice A1 (0 + n) c1) (0 + n) (dnCells d)) := (by have h9 := ho1; rw [List.nil_append] at h9; exact h9); rw [Nat.zero_add] at HO1 ⊢; clear ho1 hg1 hs1)
    go_ret
    exact ⟨_, _, rfl, DnV.of_own HO1.out HLL.out HPP.out (by omega), HG1.out⟩

set_option maxHeartbeats 4000000 in
theorem up_no (A : Option Addr) (n c : Nat) (d : List Part6) (w : World) (h : DnV w A n c d) (hno : n = 0 ∨ nameOk d = false) :
    Calls Tryd.prog 24 #[.slice A n c] w fun e w' => e = .returned (.tuple #[.slice none 0 0, .bool false]) ∧ Keeps [] w w' := by
  rcases Nat.eq_zero_or_pos n with h0 | h0
  · subst h0
    clear h hno
    go_enter Tryd.func24, Tryd.ntmps24
    go_wp2_with fail
    go_ret2
    exact ⟨rfl, Keeps.refl _ _⟩
  · have hf : nameOk d = false := hno.resolve_left (by omega)
    have HM := Lib.hid (maybe6_is w.heap.size 1 [⟨A, n, c, d⟩] _ rfl (by decide) (one_name w A n c d 23 h.2.2.2 h.1))
    simp only [List.all_cons, List.all_nil, Bool.and_true, hf] at HM
    have HK0 : Hid (Keeps [] w (w.alloc (.cells #[.slice A n c] 23))) := (Keeps.refl [] w).alloc _
    have hni : ¬ (n : Int) = 0 := by omega
    have hnb : ((n : Int) == 0) = false := by simpa using hni
    clear h hno hf h0
    go_enter Tryd.func24, Tryd.ntmps24
    go_wp2_with fail
    refine HM.out.mono ?_
    rintro e w1 ⟨rfl, hk1⟩
    have HK1 := Lib.hid (HK0.out.trans' hk1)
    clear hk1
    go_wp2_with fail
    go_ret2
    exact ⟨rfl, HK1.out⟩

set_option maxHeartbeats 4000000 in
theorem up_yes (A : Option Addr) (n c : Nat) (d : List Part6) (w : World) (h : DnV w A n c d) (h0 : 0 < n) (hf : nameOk d = true) :
    Calls Tryd.prog 24 #[.slice A n c] w fun e w' => ∃ C e', e = .returned (.tuple #[.slice C (n - 1) e', .bool true]) ∧ DnV w' C (n - 1) e' (d.drop 1) ∧ Keeps [] w w' := by
  have hn16 : n ≤ 16 := by have h1 := (nameOk_parts hf).1; have h2 := h.1.1; omega
  have HM := Lib.hid (maybe6_is w.heap.size 1 [⟨A, n, c, d⟩] _ rfl (by decide) (one_name w A n c d 23 h.2.2.2 h.1))
  simp only [List.all_cons, List.all_nil, Bool.and_true, hf] at HM
  have HK0 : Hid (Keeps [] w (w.alloc (.cells #[.slice A n c] 23))) := (Keeps.refl [] w).alloc _
  have hni : ¬ (n : Int) = 0 := by omega
  have hnb : ((n : Int) == 0) = false := by simpa using hni
  obtain ⟨B, e1, hsl, hdn⟩ := slice_from6 A n c 1 d h.2.1 h.2.2.1 h.2.2.2 (by omega)
  rw [show ((1 : Nat) : Int) = 1 from rfl] at hsl
  have HC := Lib.hid (fun X (hk : Keeps [] w X) => clone6_is B (n - 1) e1 (d.drop 1) X (hdn X (h.1.grow hk)) (by omega))
  generalize n - 1 = m at *
  clear h h0 hf hdn
  go_enter Tryd.func24, Tryd.ntmps24
  go_wp2_with fail
  refine HM.out.mono ?_
  rintro e w1 ⟨rfl, hk1⟩
  have HK1 := Lib.hid (HK0.out.trans' hk1)
  clear hk1
  go_wp2_with fail
  refine (HC.out _ HK1.out).mono ?_
  rintro e w2 ⟨C, e2, rfl, hv, hk2⟩
  have HV := Lib.hid hv
  have HK2 := Lib.hid (HK1.out.trans' hk2)
  clear hv hk2
  go_wp2_with fail
  go_ret2
  exact ⟨C, e2, rfl, HV.out, HK2.out⟩

end Go.Proofs.YtjnibkgbcgpigaaDoor
