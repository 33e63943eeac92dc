/- Texts of one proof, laid together: N39 N40. -/
import Derived.Test.YtjnibkgbcgpigaaDoorM22
/- dn: Alike, Below; walked. -/
namespace Go.Proofs.YtjnibkgbcgpigaaDoor
open Go.RowKit Go.Shelf
set_option linter.unusedVariables false
set_option linter.unusedSimpArgs false
set_option maxRecDepth 100000

/-- A name in memory, as a slice with room. -/
def DnV (w : World) (A : Option Addr) (n c : Nat) (d : List Part6) : Prop := DnIn w A n d ∧ n ≤ c ∧ c ≤ 9223372036854775807 ∧ n ≤ 4611686018427387904
theorem DnV.grow {w X : World} {A : Option Addr} {n c : Nat} {d : List Part6} (h : DnV w A n c d) (hk : Keeps [] w X) : DnV X A n c d := ⟨h.1.grow hk, h.2⟩
theorem two_names (w : World) (A B : Option Addr) (n c m c' : Nat) (a b : List Part6) (t : TypeId) (hn : n ≤ 4611686018427387904) (hm : m ≤ 4611686018427387904) (ha : DnIn w A n a) (hb : DnIn w B m b) : NmsIn (w.alloc (.cells #[.slice A n c, .slice B m c'] t)) w.heap.size [⟨A, n, c, a⟩, ⟨B, m, c', b⟩] := fun i x hi => by
  have hk : Keeps [] w (w.alloc (.cells #[.slice A n c, .slice B m c'] t)) := (Keeps.refl [] w).alloc _
  obtain ⟨f0, f1⟩ := two_facts6 (heap_new8 w (.cells #[.slice A n c, .slice B m c'] t))
  rcases i with _ | _ | i
  · simp at hi; subst hi; exact ⟨f0, hn, ha.grow hk⟩
  · simp at hi; subst hi; exact ⟨f1, hm, hb.grow hk⟩
  · simp at hi

set_option maxHeartbeats 4000000 in
theorem alike6_is (A B : Option Addr) (n m c c' : Nat) (a b : List Part6) (w : World) (ha : DnIn w A n a) (hb : DnIn w B m b) (hn : n ≤ 4611686018427387904) (hm : m ≤ 4611686018427387904) :
    Calls Tryd.prog 20 #[.slice A n c, .slice B m c'] w fun e w' => e = .returned (.bool (alikeD a b)) ∧ Keeps [] w w' := by
  have HM := Lib.hid (maybe6_is w.heap.size 2 [⟨A, n, c, a⟩, ⟨B, m, c', b⟩] _ rfl (by decide) (two_names w A B n c m c' a b 23 hn hm ha hb))
  simp only [List.all_cons, List.all_nil, Bool.and_true] at HM
  have HE := Lib.hid (fun X (hk : Keeps [] w X) => equalfunc_is A B n m c c' a b X (ha.grow hk) (hb.grow hk) hn)
  have hv : alikeD a b = ((nameOk a && nameOk b) && (decide (n = m) && alikeR a b)) := by unfold alikeD; rw [ha.1, hb.1]
  rw [hv]
  have HK0 : Hid (Keeps [] w (w.alloc (.cells #[.slice A n c, .slice B m c'] 23))) := (Keeps.refl [] w).alloc _
  generalize (nameOk a && nameOk b) = x at *
  generalize (decide (n = m) && alikeR a b) = y at *
  clear ha hb hn hm hv
  go_enter Tryd.func20, Tryd.ntmps20
  go_wp2_with fail
  refine HM.out.mono ?_
  rintro e w1 ⟨rfl, hk1⟩
  have HK1 := Lib.hid (HK0.out.trans' hk1)
  clear hk1
  cases x
  · go_wp2_with fail
    go_ret
    exact ⟨rfl, HK1.out⟩
  · go_wp2_with fail
    refine (HE.out _ HK1.out).mono ?_
    rintro e w2 ⟨rfl, hk2⟩
    have HK2 := Lib.hid (HK1.out.trans' hk2)
    clear hk2
    go_wp2_with fail
    go_ret
    exact ⟨rfl, HK2.out⟩

theorem slice_from6 (A : Option Addr) (n c at_ : Nat) (d : List Part6) (hnc : n ≤ c) (hcm : c ≤ 9223372036854775807) (hn62 : n ≤ 4611686018427387904) (ha : at_ ≤ n) :
    ∃ B e, (∀ W, (Instr.slice 23 (.slice A n c) (some (.int .i64 (at_ : Int))) none none).run Tryd.prog W = .ok (.slice B (n - at_) e) W) ∧ ∀ W, DnIn W A n d → DnV W B (n - at_) e (d.drop at_) := by
  have hr : ∀ W, (Instr.slice 23 (.slice A n c) (some (.int .i64 (at_ : Int))) none none).run Tryd.prog W = .ok (.slice (if c = at_ then A else A.map (·.add (at_ * 2))) (n - at_) (c - at_)) W := by
    intro W
    rw [run_slice_l W 23 A n c (by simp [Program.elem, Tryd.underlying23]) .i64 _ (by omega) (by omega)]
    rw [show Tryd.prog.elem 23 = 38 by simp [Program.elem, Tryd.underlying23], Tryd.sizeOf38]
    simp [Result.andThen, sliced]
  refine ⟨_, _, hr, fun W hb => ⟨?_, by omega, by omega, by omega⟩⟩
  obtain ⟨h1, h2, h3⟩ := hb
  refine ⟨by rw [List.length_drop, h1], fun p hp => h2 p (List.mem_of_mem_drop hp), fun hp => ?_⟩
  obtain ⟨b, o, rfl, hc⟩ := h3 (by omega)
  refine ⟨b, o + at_ * 2, ?_, fun i p hi => ?_⟩
  · rw [if_neg (by omega)]
    simp [Addr.add]
  · rw [List.getElem?_drop] at hi
    have := hc (at_ + i) p hi
    rw [show o + at_ * 2 + i * 2 = o + (at_ + i) * 2 by omega]
    exact this

def belowD (a b : List Part6) : Bool := decide (b.length < a.length) && (nameOk a && alikeD (a.drop (a.length - b.length)) b)

set_option maxHeartbeats 4000000 in
theorem below6_is (A B : Option Addr) (n m c c' : Nat) (a b : List Part6) (w : World) (ha : DnV w A n c a) (hb : DnV w B m c' b) :
    Calls Tryd.prog 21 #[.slice A n c, .slice B m c'] w fun e w' => e = .returned (.bool (belowD a b)) ∧ Keeps [] w w' := by
  obtain ⟨ha, hnc, hcm, hn62⟩ := ha
  obtain ⟨hb, hmc, hcm2, hm62⟩ := hb
  have hv : belowD a b = (decide (m < n) && (nameOk a && alikeD (a.drop (n - m)) b)) := by unfold belowD; rw [ha.1, hb.1]
  rw [hv]
  by_cases hmn : m < n
  · obtain ⟨D, e, hsl, hdn⟩ := slice_from6 A n c (n - m) a hnc hcm hn62 (by omega)
    have hmm : n - (n - m) = m := by omega
    rw [hmm] at hsl hdn
    have HA := Lib.hid (fun X (hk : Keeps [] w X) => alike6_is D B m m e c' (a.drop (n - m)) b X (hdn X (ha.grow hk)).1 (hb.grow hk) (by omega) (by omega))
    have HM := Lib.hid (maybe6_is w.heap.size 1 [⟨A, n, c, a⟩] _ rfl (by decide) (one_name w A n c a 23 (by omega) ha))
    simp only [List.all_cons, List.all_nil, Bool.and_true] at HM
    have HK0 : Hid (Keeps [] w (w.alloc (.cells #[.slice A n c] 23))) := (Keeps.refl [] w).alloc _
    rw [show decide (m < n) = true by simpa using hmn, Bool.true_and]
    generalize nameOk a = x at *
    generalize alikeD (a.drop (n - m)) b = y at *
    have hsub : (n : Int) - (m : Int) = ((n - m : Nat) : Int) := by omega
    have hpos : (0 : Int) < ((n - m : Nat) : Int) := by omega
    have hposb : decide ((0 : Int) < ((n - m : Nat) : Int)) = true := by simp; omega
    have hw : wrap64 ((n - m : Nat) : Int) = ((n - m : Nat) : Int) := by unfold wrap64; omega
    generalize ((n - m : Nat) : Int) = k at *
    clear ha hb hdn hnc hmc hcm hcm2 hmn hmm hv hn62 hm62
    go_enter Tryd.func21, Tryd.ntmps21
    go_wp2_with fail
    refine HM.out.mono ?_
    rintro e1 w1 ⟨rfl, hk1⟩
    have HK1 := Lib.hid (HK0.out.trans' hk1)
    clear hk1
    cases x
    · go_wp2_with fail
      go_ret
      exact ⟨rfl, HK1.out⟩
    · go_wp2_with fail
      refine (HA.out _ HK1.out).mono ?_
      rintro e2 w2 ⟨rfl, hk2⟩
      have HK2 := Lib.hid (HK1.out.trans' hk2)
      clear hk2
      go_wp2_with fail
      go_ret
      exact ⟨rfl, HK2.out⟩
  · rw [show decide (m < n) = false by simpa using hmn, Bool.false_and]
    have hpos : ¬ (0 : Int) < (n : Int) - (m : Int) := by omega
    have hposb : decide ((0 : Int) < (n : Int) - (m : Int)) = false := by simp; omega
    have hw : wrap64 ((n : Int) - (m : Int)) = (n : Int) - (m : Int) := by unfold wrap64; omega
    clear ha hb hv
    go_enter Tryd.func21, Tryd.ntmps21
    go_wp2_with fail
    go_ret
    exact ⟨rfl, Keeps.refl _ _⟩

end Go.Proofs.YtjnibkgbcgpigaaDoor
/- dn: a copy of a name, Up; walked. -/
namespace Go.Proofs.YtjnibkgbcgpigaaDoor
open Go.RowKit Go.Shelf
set_option linter.unusedVariables false
set_option linter.unusedSimpArgs false
set_option maxRecDepth 100000

theorem dnCells_inv : ∀ (d : List Part6) (j : Nat) (u : Value), (dnCells d)[j]? = some u → ∃ i p, d[i]? = some p ∧ (j = i * 2 ∧ u = tv p.1 ∨ j = i * 2 + 1 ∧ u = tv p.2)
  | [], j, u, h => by simp [dnCells] at h
  | q :: r, 0, u, h => by
    have e : dnCells (q :: r) = tv q.1 :: tv q.2 :: dnCells r := rfl
    rw [e] at h
    simp at h
    exact ⟨0, q, rfl, .inl ⟨rfl, h.symm⟩⟩
  | q :: r, 1, u, h => by
    have e : dnCells (q :: r) = tv q.1 :: tv q.2 :: dnCells r := rfl
    rw [e] at h
    simp at h
    exact ⟨0, q, rfl, .inr ⟨rfl, h.symm⟩⟩
  | q :: r, j + 2, u, h => by
    have e : dnCells (q :: r) = tv q.1 :: tv q.2 :: dnCells r := rfl
    rw [e] at h
    obtain ⟨i, p, h1, h2⟩ := dnCells_inv r j u (by simpa using h)
    refine ⟨i + 1, p, by simpa using h1, ?_⟩
    rcases h2 with ⟨h2, h3⟩ | ⟨h2, h3⟩
    · exact .inl ⟨by omega, h3⟩
    · exact .inr ⟨by omega, h3⟩
theorem DnIn.src {w : World} {A : Option Addr} {n : Nat} {d : List Part6} (h : DnIn w A n d) : Src w A n (dnCells d) := by
  obtain ⟨h1, h2, h3⟩ := h
  refine ⟨fun hA => ?_, fun ad hA j u hu => ?_⟩
  · rcases Nat.eq_zero_or_pos n with h0 | h0
    · exact h0
    · obtain ⟨b, o, e, _⟩ := h3 h0
      rw [e] at hA
      cases hA
  · obtain ⟨i, p, hi, hj⟩ := dnCells_inv d j u hu
    have hin := (List.getElem?_eq_some_iff.1 hi).1
    obtain ⟨b, o, e, hc⟩ := h3 (by omega)
    rw [hA] at e
    injection e with e
    subst e
    obtain ⟨c0, c1⟩ := hc i p hi
    rw [show (⟨b, o, none⟩ : Addr).add j = ⟨b, o + j, none⟩ from by unfold Addr.add; split <;> simp_all]
    rcases hj with ⟨rfl, rfl⟩ | ⟨rfl, rfl⟩
    · exact c0
    · rw [← Nat.add_assoc]; exact c1
theorem dnCells_one (d : List Part6) : ∀ u ∈ dnCells d, u.oneCell' = true := by
  intro u hu
  obtain ⟨j, hj⟩ := List.mem_iff_getElem?.1 hu
  obtain ⟨i, p, _, h⟩ := dnCells_inv d j u hj
  rcases h with ⟨_, rfl⟩ | ⟨_, rfl⟩ <;> rfl
theorem DnV.of_own {w : World} {B n c : Nat} {A : Option Addr} {t : TypeId} {d : List Part6} (h : w.ownsRow B t 2 (.slice A n c) n (dnCells d)) (hn : d.length = n) (hl : ∀ p ∈ d, p.1.length ≤ 9223372036854775807 ∧ p.2.length ≤ 9223372036854775807) (hb : n ≤ 4611686018427387904) : DnV w A n c d := by
  refine ⟨DnIn.of_own h hn hl, ?_⟩
  rcases h.2 with ⟨h1, h2⟩ | ⟨g, cap, cur, hA, hg, hh, hc, hm, r⟩
  · injection h1 with _ _ e3
    omega
  · injection hA with _ _ e3
    unfold maxLen at hm
    exact ⟨by omega, by omega, hb⟩

set_option maxHeartbeats 4000000 in
theorem clone6_is (A : Option Addr) (n c : Nat) (d : List Part6) (w : World) (h : DnV w A n c d) (hn : n ≤ 1000000000) :
    Calls Tryd.prog 42 #[.slice A n c] w fun e w' => ∃ C e', e = .returned (.slice C n e') ∧ DnV w' C n e' d ∧ Keeps [] w w' := by
  obtain ⟨iu, hiu, hzu0, hzu1, hzu2⟩ := info_parts rdn_info
  have HS := Lib.hid h.1.src
  have HL : Hid ((dnCells d).length = n * 2) := by show _ = _; rw [dnCells_len, h.1.1]
  have HLL : Hid (d.length = n) := h.1.1
  have HPP := Lib.hid h.1.2.1
  have hq := fun (W : World) (a : Option Addr) (n c : Nat) => Lib.run_eql_slice_nil (P := Tryd.prog) W 23 38 a n c 0 0 Tryd.underlying23
  clear h
  rcases A with _ | ad
  · have hz : n = 0 := HS.out.1 rfl
    subst hz
    have hd : d = [] := List.length_eq_zero_iff.1 HLL.out
    subst hd
    go_enter Tryd.func42, Tryd.ntmps42
    go_wp2_with fail
    go_ret
    exact ⟨_, _, rfl, ⟨⟨rfl, (fun p hp => by cases hp), fun h => by omega⟩, by omega, by omega, by omega⟩, Keeps.refl _ _⟩
  · have HSR : Hid (∀ o, Src (w.alloc o) (some ad) n (dnCells d)) := fun o => by
      refine ⟨fun h => by simp at h, fun a' ha j u hu => ?_⟩
      have h9 := HS.out.2 a' ha j u hu
      exact (((Keeps.refl [] w).alloc o).cell (lt_of_cell h9) (by simp)).trans h9
    go_enter Tryd.func42, Tryd.ntmps42
    go_wp2_with (at_builtin; refine wpList_append_opt rfl (.tmp 5) (.tmp 6) 23 rfl w.heap.size 38 iu _ 2 32 Tryd.underlying23 hiu hzu0 hzu1 hzu2 rfl (by decide) (.slice (some ⟨w.heap.size, 0, none⟩) 0 0) 0 [] rfl (World.ownsRow_made w #[] 0 (Nat.le_refl _) (by unfold maxLen; omega) rfl) (some ad) n c (dnCells d) rfl HL.out (HSR.out _) (dnCells_one d) (by unfold maxLen; omega) (by omega) (by simp) ?_; intro v1 w1 ho1 hg1 hs1; obtain ⟨A1, c1, hv1⟩ := own_slice ho1; subst hv1; have HG1 := Lib.hid (Keeps.trans ((Keeps.refl [] w).alloc (.cells #[] 38)) (Keeps.of_grown (bs := [w.heap.size]) hg1 (fun x hx => .inl (by simp [Value.ownBlock] at hx; simp [hx]))) (fun y hy => .inr (by rw [List.mem_singleton.1 hy]; exact Nat.le_refl _))); have HO1 : Hid (w1.ownsRow w.heap.size 38 2 (.slice A1 (0 + n) c1) (0 + n) (dnCells d)) := (by have h9 := ho1; rw [List.nil_append] at h9; exact h9); rw [Nat.zero_add] at HO1 ⊢; clear ho1 hg1 hs1)
    go_ret
    exact ⟨_, _, rfl, DnV.of_own HO1.out HLL.out HPP.out (by omega), HG1.out⟩

set_option maxHeartbeats 4000000 in
theorem up_no (A : Option Addr) (n c : Nat) (d : List Part6) (w : World) (h : DnV w A n c d) (hno : n = 0 ∨ nameOk d = false) :
    Calls Tryd.prog 24 #[.slice A n c] w fun e w' => e = .returned (.tuple #[.slice none 0 0, .bool false]) ∧ Keeps [] w w' := by
  rcases Nat.eq_zero_or_pos n with h0 | h0
  · subst h0
    clear h hno
    go_enter Tryd.func24, Tryd.ntmps24
    go_wp2_with fail
    go_ret2
    exact ⟨rfl, Keeps.refl _ _⟩
  · have hf : nameOk d = false := hno.resolve_left (by omega)
    have HM := Lib.hid (maybe6_is w.heap.size 1 [⟨A, n, c, d⟩] _ rfl (by decide) (one_name w A n c d 23 h.2.2.2 h.1))
    simp only [List.all_cons, List.all_nil, Bool.and_true, hf] at HM
    have HK0 : Hid (Keeps [] w (w.alloc (.cells #[.slice A n c] 23))) := (Keeps.refl [] w).alloc _
    have hni : ¬ (n : Int) = 0 := by omega
    have hnb : ((n : Int) == 0) = false := by simpa using hni
    clear h hno hf h0
    go_enter Tryd.func24, Tryd.ntmps24
    go_wp2_with fail
    refine HM.out.mono ?_
    rintro e w1 ⟨rfl, hk1⟩
    have HK1 := Lib.hid (HK0.out.trans' hk1)
    clear hk1
    go_wp2_with fail
    go_ret2
    exact ⟨rfl, HK1.out⟩

set_option maxHeartbeats 4000000 in
theorem up_yes (A : Option Addr) (n c : Nat) (d : List Part6) (w : World) (h : DnV w A n c d) (h0 : 0 < n) (hf : nameOk d = true) :
    Calls Tryd.prog 24 #[.slice A n c] w fun e w' => ∃ C e', e = .returned (.tuple #[.slice C (n - 1) e', .bool true]) ∧ DnV w' C (n - 1) e' (d.drop 1) ∧ Keeps [] w w' := by
  have hn16 : n ≤ 16 := by have h1 := (nameOk_parts hf).1; have h2 := h.1.1; omega
  have HM := Lib.hid (maybe6_is w.heap.size 1 [⟨A, n, c, d⟩] _ rfl (by decide) (one_name w A n c d 23 h.2.2.2 h.1))
  simp only [List.all_cons, List.all_nil, Bool.and_true, hf] at HM
  have HK0 : Hid (Keeps [] w (w.alloc (.cells #[.slice A n c] 23))) := (Keeps.refl [] w).alloc _
  have hni : ¬ (n : Int) = 0 := by omega
  have hnb : ((n : Int) == 0) = false := by simpa using hni
  obtain ⟨B, e1, hsl, hdn⟩ := slice_from6 A n c 1 d h.2.1 h.2.2.1 h.2.2.2 (by omega)
  rw [show ((1 : Nat) : Int) = 1 from rfl] at hsl
  have HC := Lib.hid (fun X (hk : Keeps [] w X) => clone6_is B (n - 1) e1 (d.drop 1) X (hdn X (h.1.grow hk)) (by omega))
  generalize n - 1 = m at *
  clear h h0 hf hdn
  go_enter Tryd.func24, Tryd.ntmps24
  go_wp2_with fail
  refine HM.out.mono ?_
  rintro e w1 ⟨rfl, hk1⟩
  have HK1 := Lib.hid (HK0.out.trans' hk1)
  clear hk1
  go_wp2_with fail
  refine (HC.out _ HK1.out).mono ?_
  rintro e w2 ⟨C, e2, rfl, hv, hk2⟩
  have HV := Lib.hid hv
  have HK2 := Lib.hid (HK1.out.trans' hk2)
  clear hv hk2
  go_wp2_with fail
  go_ret2
  exact ⟨C, e2, rfl, HV.out, HK2.out⟩

end Go.Proofs.YtjnibkgbcgpigaaDoor
