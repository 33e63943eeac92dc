/- Texts of one proof, laid together: X16 X20. -/
import Derived.Test.YtfjlcfbomlfpfaaDoorM89
import Derived.Test.YtfjlcfbomlfpfaaDoorM93
import Derived.Test.YtfjlcfbomlfpfaaDoorM92
import Derived.Test.YtfjlcfbomlfpfaaDoorM87
import Derived.Test.YtfjlcfbomlfpfaaDoorM85
import Derived.Test.YtfjlcfbomlfpfaaDoorM82
import Derived.BigQuiet
/- entry: what is done and undone again; changes of unlike names; as words. -/
namespace Go.Proofs.YtfjlcfbomlfpfaaDoor
open Go.RowKit Go.Shelf
set_option linter.unusedVariables false
set_option linter.unusedSimpArgs false

theorem one_ok {E : List Att} {k : Nat} {z : Txt} {told : List Txt} (h : (oneR E k z told).2 = 0) : (nowR k (cont2 E z) told).2 = 0 ∧ (oneR E k z told).1 = setR E z (nowR k (cont2 E z) told).1 := by
  unfold oneR at h ⊢
  split at h
  · rename_i h1; exact absurd h h1
  · rename_i h1
    rw [if_neg h1]
    split at h
    · cases h
    · rename_i h2
      rw [if_neg h2]
      exact ⟨Decidable.not_not.1 h1, rfl⟩
/-- What a Do of two changes that may be has done. -/
theorem do_two {e E : List Att} {a b : Chg7} (h : doP e [a, b] = (E, 0)) : entOk e = true ∧ modOk a.1 a.2.1 a.2.2 = true ∧ modOk b.1 b.2.1 b.2.2 = true ∧ (oneR e a.1.toNat (smallL a.2.1) a.2.2).2 = 0 ∧ (oneR (oneR e a.1.toNat (smallL a.2.1) a.2.2).1 b.1.toNat (smallL b.2.1) b.2.2).2 = 0 ∧ (oneR (oneR e a.1.toNat (smallL a.2.1) a.2.2).1 b.1.toNat (smallL b.2.1) b.2.2).1 = E := by
  rw [← rdo_eq] at h
  unfold rdoP at h
  split at h
  · cases h
  · rename_i h1
    split at h
    · cases h
    · rename_i h2
      have h2' : [a, b].all (fun m => modOk m.1 m.2.1 m.2.2) = true := by simpa using h2
      simp only [List.all_cons, List.all_nil, Bool.and_true, Bool.and_eq_true] at h2'
      unfold rdoGo at h
      split at h
      · rename_i h3; exact absurd (congrArg Prod.snd h) h3
      · rename_i h3
        unfold rdoGo at h
        split at h
        · rename_i h4; exact absurd (congrArg Prod.snd h) h4
        · rename_i h4
          unfold rdoGo at h
          exact ⟨by simpa using h1, h2'.1, h2'.2, Decidable.not_not.1 h3, Decidable.not_not.1 h4, congrArg Prod.fst h⟩
theorem rise_cont {e : List Att} (h : entOk e = true) (k : Txt) : Rise (cont2 e k) := by
  obtain ⟨h1, h2⟩ := entOk_good h
  by_cases hk : cont2 e k = []
  · rw [hk]; exact List.Pairwise.nil
  · exact (h2 _ (cont2_ne hk)).2
theorem set_back {e : List Att} (h : Good7 e) (z : Txt) (l : List Txt) : setR (setR e z l) z (cont2 e z) = e :=
  (setR_good _ _ (setR_good _ _ h)).ext h (fun k => by
    rw [setR_cont _ _ (setR_good _ _ h), setR_cont _ _ h]
    split
    · rename_i hk; rw [hk]
    · rfl)
theorem back_add {e E : List Att} {nm : Txt} {vs : List Txt} (h : doP e [(1, nm, vs), (2, nm, vs)] = (E, 0)) : E = e := by
  obtain ⟨h1, h2, _, h3, h4, h5⟩ := do_two h
  obtain ⟨hg, _⟩ := entOk_good h1
  have hr := rise_cont h1 (smallL nm)
  obtain ⟨h6, h7⟩ := one_ok h3
  obtain ⟨h8, h9⟩ := one_ok h4
  rw [h7] at h8 h9
  dsimp only at h6 h7 h8 h9 h5
  rw [h7, h9] at h5
  have hc : cont2 (setR e (smallL nm) (nowR (1 : Int).toNat (cont2 e (smallL nm)) vs).1) (smallL nm) = (nowR (1 : Int).toNat (cont2 e (smallL nm)) vs).1 := by rw [setR_cont _ _ hg, if_pos rfl]
  rw [hc] at h8 h5
  have hn1 : nowR (1 : Int).toNat (cont2 e (smallL nm)) vs = (ordS (cont2 e (smallL nm) ++ vs), 0) ∧ (cont2 e (smallL nm) ++ vs).Nodup := by
    have hk : (1 : Int).toNat = 1 := rfl
    rw [hk] at h6 ⊢
    unfold nowR at h6 ⊢
    rw [if_pos rfl] at h6 ⊢
    by_cases ht : twiceR (cont2 e (smallL nm) ++ vs) = true
    · rw [if_pos ht] at h6; cases h6
    · rw [if_neg ht]
      have hw := withs_ord vs (cont2 e (smallL nm))
      rw [ordS_rise hr] at hw
      rw [hw]
      refine ⟨rfl, ?_⟩
      unfold twiceR at ht
      simpa using ht
  obtain ⟨hn1, hnd⟩ := hn1
  rw [hn1] at h5 h8
  dsimp only at h5 h8
  have hvs : vs ≠ [] := by
    intro e2
    rw [e2] at h2
    unfold modOk at h2
    split at h2 <;> simp at h2
  have hn2 : (nowR (2 : Int).toNat (ordS (cont2 e (smallL nm) ++ vs)) vs).1 = cont2 e (smallL nm) := by
    have hk : (2 : Int).toNat = 2 := rfl
    rw [hk] at h8 ⊢
    unfold nowR at h8 ⊢
    rw [if_neg (by decide), if_pos rfl] at h8 ⊢
    split at h8
    · cases h8
    · rename_i g1
      rw [if_neg g1]
      split at h8
      · cases h8
      · rename_i g2
        rw [if_neg g2, if_neg hvs]
        dsimp only
        refine rise_same ((ordS_is _).1.filter _) hr (fun x => ?_)
        rw [List.mem_filter, (ordS_is _).2, List.mem_append]
        rw [List.nodup_append] at hnd
        constructor
        · rintro ⟨hx | hx, hx2⟩
          · exact hx
          · simp [hx] at hx2
        · intro hx
          refine ⟨.inl hx, ?_⟩
          cases hq : vs.contains x with
          | false => rfl
          | true => exact absurd rfl (hnd.2.2 x hx x (by simpa using hq))
  rw [hn2] at h5
  rw [← h5]
  exact set_back hg _ _
theorem back_rep {e E : List Att} {nm : Txt} {vs : List Txt} (h : doP e [(3, nm, vs), (3, nm, cont2 e (smallL nm))] = (E, 0)) : E = e := by
  obtain ⟨h1, _, _, h3, h4, h5⟩ := do_two h
  obtain ⟨hg, _⟩ := entOk_good h1
  have hr := rise_cont h1 (smallL nm)
  obtain ⟨_, h7⟩ := one_ok h3
  obtain ⟨_, h9⟩ := one_ok h4
  dsimp only at h7 h9 h5
  rw [h9, h7] at h5
  have hn : ∀ had, (nowR (3 : Int).toNat had (cont2 e (smallL nm))).1 = cont2 e (smallL nm) := fun had => by
    have hw := withs_ord (cont2 e (smallL nm)) []
    rw [ordS_none, List.nil_append, ordS_rise hr] at hw
    exact hw
  rw [hn] at h5
  rw [← h5]
  exact set_back hg _ _

/-- Two changes of unlike names, in any order. -/
theorem set_comm {e : List Att} (h : Good7 e) {y z : Txt} (hyz : y ≠ z) (l m : List Txt) : setR (setR e y l) z m = setR (setR e z m) y l :=
  (setR_good _ _ (setR_good _ _ h)).ext (setR_good _ _ (setR_good _ _ h)) (fun k => by
    rw [setR_cont _ _ (setR_good _ _ h), setR_cont _ _ h, setR_cont _ _ (setR_good _ _ h), setR_cont _ _ h]
    by_cases h1 : k = z
    · rw [if_pos h1, if_neg (fun e => hyz (e.symm.trans h1)), if_pos h1]
    · rw [if_neg h1, if_neg h1])
theorem one_iff {E : List Att} {k : Nat} {z : Txt} {told : List Txt} (hl : E.length ≤ 23) : (oneR E k z told).2 = 0 ↔ ((nowR k (cont2 E z) told).2 = 0 ∧ (nowR k (cont2 E z) told).1.length ≤ 16) := by
  have hs := setR_len E z (nowR k (cont2 E z) told).1
  unfold oneR
  by_cases h1 : (nowR k (cont2 E z) told).2 ≠ 0
  · rw [if_pos h1]
    exact ⟨fun h => absurd h h1, fun h => absurd h.1 h1⟩
  · rw [if_neg h1]
    by_cases h2 : (nowR k (cont2 E z) told).1.length ≤ 16
    · rw [if_neg (by simp only [Bool.or_eq_true, decide_eq_true_eq]; omega)]
      exact ⟨fun _ => ⟨Decidable.not_not.1 h1, h2⟩, fun _ => rfl⟩
    · rw [if_pos (by simp only [Bool.or_eq_true, decide_eq_true_eq]; omega)]
      exact ⟨(fun h => by cases h), fun h => absurd h.2 h2⟩
theorem do_ok {e : List Att} {a b : Chg7} (h1 : entOk e = true) (h2 : modOk a.1 a.2.1 a.2.2 = true) (h3 : modOk b.1 b.2.1 b.2.2 = true) (h4 : (oneR e a.1.toNat (smallL a.2.1) a.2.2).2 = 0) (h5 : (oneR (oneR e a.1.toNat (smallL a.2.1) a.2.2).1 b.1.toNat (smallL b.2.1) b.2.2).2 = 0) : doP e [a, b] = ((oneR (oneR e a.1.toNat (smallL a.2.1) a.2.2).1 b.1.toNat (smallL b.2.1) b.2.2).1, 0) := by
  rw [← rdo_eq]
  unfold rdoP
  rw [if_neg (by rw [h1]; decide), if_neg (by simp [h2, h3])]
  unfold rdoGo
  rw [if_neg (by simp [h4])]
  unfold rdoGo
  rw [if_neg (by simp [h5])]
  rfl
theorem do_no {e : List Att} {l : List Chg7} (h : (doP e l).2 ≠ 0) : (doP e l).1 = [] := by
  rw [← rdo_eq] at h ⊢
  have hg : ∀ (l : List Chg7) (E : List Att), (rdoGo E l).2 ≠ 0 → (rdoGo E l).1 = [] := by
    intro l
    induction l with
    | nil => intro E h; exact absurd rfl h
    | cons m r ih =>
      intro E h
      unfold rdoGo at h ⊢
      split
      · rfl
      · rename_i h3
        rw [if_neg h3] at h
        exact ih _ h
  unfold rdoP at h ⊢
  split
  · rfl
  · rename_i h1
    rw [if_neg h1] at h
    split
    · rfl
    · rename_i h2
      rw [if_neg h2] at h
      exact hg _ _ h
theorem one_half {e : List Att} {a b : Chg7} (hl : e.length ≤ 20) (hne : smallL a.2.1 ≠ smallL b.2.1) (h : (doP e [a, b]).2 = 0) : (doP e [b, a]).2 = 0 ∧ (doP e [b, a]).1 = (doP e [a, b]).1 := by
  obtain ⟨E, hE⟩ : ∃ E, (doP e [a, b]).1 = E := ⟨_, rfl⟩
  have hp : doP e [a, b] = (E, 0) := by rw [← hE, ← h]
  obtain ⟨h1, h2, h3, h4, h5, h6⟩ := do_two hp
  obtain ⟨hg, _⟩ := entOk_good h1
  obtain ⟨_, g2⟩ := one_ok h4
  obtain ⟨_, g4⟩ := one_ok h5
  have l1 := setR_len e (smallL a.2.1) (nowR a.1.toNat (cont2 e (smallL a.2.1)) a.2.2).1
  have l2 := setR_len e (smallL b.2.1) (nowR b.1.toNat (cont2 e (smallL b.2.1)) b.2.2).1
  have i4 := (one_iff (by omega)).1 h4
  rw [g2] at h5 g4
  have i5 := (one_iff (by omega)).1 h5
  have c1 : cont2 (setR e (smallL a.2.1) (nowR a.1.toNat (cont2 e (smallL a.2.1)) a.2.2).1) (smallL b.2.1) = cont2 e (smallL b.2.1) := by rw [setR_cont _ _ hg, if_neg (fun e2 => hne e2.symm)]
  rw [c1] at i5 g4
  have k1 : (oneR e b.1.toNat (smallL b.2.1) b.2.2).2 = 0 := (one_iff (by omega)).2 i5
  obtain ⟨_, k2⟩ := one_ok k1
  have c2 : cont2 (setR e (smallL b.2.1) (nowR b.1.toNat (cont2 e (smallL b.2.1)) b.2.2).1) (smallL a.2.1) = cont2 e (smallL a.2.1) := by rw [setR_cont _ _ hg, if_neg hne]
  have k3 : (oneR (oneR e b.1.toNat (smallL b.2.1) b.2.2).1 a.1.toNat (smallL a.2.1) a.2.2).2 = 0 := by
    rw [k2]
    exact (one_iff (by omega)).2 (by rw [c2]; exact i4)
  obtain ⟨_, k4⟩ := one_ok k3
  have hd := do_ok h1 h3 h2 k1 k3
  rw [hd, hE, ← h6]
  refine ⟨rfl, ?_⟩
  show (oneR (oneR e b.1.toNat (smallL b.2.1) b.2.2).1 a.1.toNat (smallL a.2.1) a.2.2).1 = _
  rw [k4, k2, c2, g2, g4]
  exact set_comm hg (fun e2 => hne e2.symm) _ _
theorem one_both {e : List Att} {a b : Chg7} (hl : e.length ≤ 20) (hne : smallL a.2.1 ≠ smallL b.2.1) : (decide ((doP e [a, b]).2 = 0) = decide ((doP e [b, a]).2 = 0)) ∧ (doP e [a, b]).1 = (doP e [b, a]).1 := by
  by_cases h : (doP e [a, b]).2 = 0
  · obtain ⟨h1, h2⟩ := one_half hl hne h
    exact ⟨by rw [h, h1], h2.symm⟩
  · have h2 : ¬ (doP e [b, a]).2 = 0 := fun h2 => h (one_half hl (fun e2 => hne e2.symm) h2).1
    exact ⟨by rw [decide_eq_false h, decide_eq_false h2], by rw [do_no h, do_no h2]⟩
/-- One name, put in order. -/
theorem ord_x (s : Txt) : (orderP [(s, [[120]])]).1 = if nameT s = true then [(smallL s, [[120]])] else [] := by
  unfold orderP
  by_cases h : nameT s = true
  · have hm : maybeA s [[120]] = true := by unfold maybeA; rw [h]; decide
    rw [if_pos (by simp [hm]), if_pos h]
    have hg : ∀ k, gath [(s, [[120]])] k = if smallL s = k then [[120]] else [] := fun k => by
      unfold gath
      by_cases hk : smallL s = k
      · simp [hk]
      · simp [hk]
    have ho : ordE [(s, [[120]])] = [(smallL s, [[120]])] := by
      refine (ordE_good _).ext ⟨by simp [NRise], by simp⟩ (fun k => ?_)
      rw [ordE_cont, hg]
      unfold cont2
      by_cases hk : smallL s = k
      · rw [if_pos hk]
        simp only [List.find?_cons, hk, beq_self_eq_true]
        exact ordS_rise (by simp [Rise])
      · have hb : (smallL s == k) = false := by simpa using hk
        rw [if_neg hk]
        simp only [List.find?_cons, hb, List.find?_nil]
        exact ordS_none
    rw [ho]
    rw [if_neg (by unfold anyLong longN; simp)]
  · have hf : nameT s = false := by simpa using h
    have hm : maybeA s [[120]] = false := by unfold maybeA; rw [hf]; simp
    rw [if_neg (by simp [hm]), if_neg h]
theorem one_names {e : List Att} {a b : Chg7} (hl : e.length ≤ 20) (hne : ((orderP [(a.2.1, [[120]])]).1 == (orderP [(b.2.1, [[120]])]).1) = false) : (decide ((doP e [a, b]).2 = 0) = decide ((doP e [b, a]).2 = 0)) ∧ (doP e [a, b]).1 = (doP e [b, a]).1 := by
  rw [ord_x, ord_x] at hne
  by_cases hs : smallL a.2.1 = smallL b.2.1
  · -- the letters are the same: so one of both is no name, which ends both
    have hx : nameT a.2.1 ≠ nameT b.2.1 := by
      intro e2
      rw [hs, e2] at hne
      simp at hne
    have hbad : ∀ {x y : Chg7}, (nameT x.2.1 = false ∨ nameT y.2.1 = false) → ¬ (doP e [x, y]).2 = 0 := by
      intro x y hxy h2
      have hp : doP e [x, y] = ((doP e [x, y]).1, 0) := by rw [← h2]
      obtain ⟨_, m1, m2, _⟩ := do_two hp
      unfold modOk maybeA at m1 m2
      rcases hxy with hh | hh
      · rw [hh] at m1; split at m1 <;> simp at m1
      · rw [hh] at m2; split at m2 <;> simp at m2
    have hor : nameT a.2.1 = false ∨ nameT b.2.1 = false := by
      cases h1 : nameT a.2.1 <;> cases h2 : nameT b.2.1 <;> simp_all
    have h1 := hbad hor
    have h2 := hbad hor.symm
    exact ⟨by rw [decide_eq_false h1, decide_eq_false h2], by rw [do_no h1, do_no h2]⟩
  · exact one_both hl hs
end Go.Proofs.YtfjlcfbomlfpfaaDoor
/- entry: EntryOne; walked. -/
namespace Go.Proofs.YtfjlcfbomlfpfaaDoor
open Go.RowKit Go.Shelf
set_option linter.unusedVariables false
set_option linter.unusedSimpArgs false
set_option maxRecDepth 100000

/-- What a call answers that tells an entry. -/
def EntA (E : List Att) (w : World) (e : Ending) (w' : World) : Prop := ∃ A n c, e = .returned (.slice A n c) ∧ EntQ E w A n c w' ∧ Keeps [] w w'
set_option maxHeartbeats 4000000 in
theorem ordered7_is (s : Txt) (w : World) (hs : s.length ≤ 9223372036854775807) :
    Calls Tryd.prog 11 #[tv s] w (EntA (orderP [(s, [[120]])]).1 w) := by
  have HS1 := Lib.hid (strs_lit w [[120]] 1 #[.string ⟨#[120]⟩] rfl rfl (by omega) (by simp))
  have HK1 : Hid (Keeps [] w (w.alloc (.cells #[.string ⟨#[120]⟩] 9))) := (Keeps.refl [] w).alloc _
  obtain ⟨W1, hW1⟩ : ∃ W1, w.alloc (.cells #[.string ⟨#[120]⟩] 9) = W1 := ⟨_, rfl⟩
  have hz1 : W1.heap.size = w.heap.size + 1 := by rw [← hW1]; simp
  rw [hW1] at HS1 HK1
  have HE3 := Lib.hid (ents_lit W1 [⟨s, some ⟨w.heap.size, 0, none⟩, 1, 1, [[120]]⟩] 1 #[tv s, .slice (some ⟨w.heap.size, 0, none⟩) 1 1] rfl rfl (by omega) (fun a ha => by
    simp at ha
    subst ha
    exact ⟨hs, by simp, by simp, HS1.out⟩))
  have HK3 : Hid (Keeps [] W1 (W1.alloc (.cells #[tv s, .slice (some ⟨w.heap.size, 0, none⟩) 1 1] 27))) := (Keeps.refl [] W1).alloc _
  obtain ⟨W3, hW3⟩ : ∃ W3, W1.alloc (.cells #[tv s, .slice (some ⟨w.heap.size, 0, none⟩) 1 1] 27) = W3 := ⟨_, rfl⟩
  rw [hW3, hz1] at HE3
  rw [hW3] at HK3
  have hOR := order_is _ 1 1 _ W3 HE3.out ⟨by simp, fun a ha => by simp at ha; subst ha; simp⟩
  rw [show ents [⟨s, some ⟨w.heap.size, 0, none⟩, 1, 1, [[120]]⟩] = [(s, [[120]])] from rfl] at hOR
  have HOR := Lib.hid hOR
  have HKW : Hid (Keeps [] w W3) := HK1.out.trans' HK3.out
  unfold tv at hW3 ⊢
  clear hOR hs
  go_enter Tryd.func11, Tryd.ntmps11
  go_wp2_with fail
  refine HOR.out.mono ?_
  rintro e x1 ⟨A1, n1, c1, rfl, hQ, hk1⟩
  have HQ : Hid (EntQ (orderP [(s, [[120]])]).1 w A1 n1 c1 x1) := hQ
  have HX1 := Lib.hid (HKW.out.trans' hk1)
  clear hQ hk1 hW1 hW3 hz1 HOR
  go_wp2_with fail
  go_ret
  exact ⟨A1, n1, c1, rfl, HQ.out, HX1.out⟩

theorem EntQ.grow {e : List Att} {w w' w2 : World} {A : Option Addr} {n c : Nat} (hk : Keeps [] w' w2) (h : EntQ e w A n c w') : EntQ e w A n c w2 := by
  obtain ⟨L, e1, e2, e3, e4, e5⟩ := h
  exact ⟨L, e1, EntIn.grow hk e2, e3, e4, e5⟩
theorem ordsame_is (s t : Txt) (A B : Option Addr) (n m c d : Nat) (X : World) {Y Z : World} (h1 : EntQ (orderP [(s, [[120]])]).1 Y A n c X) (h2 : EntQ (orderP [(t, [[120]])]).1 Z B m d X) :
    Calls Tryd.prog 9 #[.slice A n c, .slice B m d] X fun e w' => e = .returned (.bool ((orderP [(s, [[120]])]).1 == (orderP [(t, [[120]])]).1)) ∧ Keeps [] X w' := by
  obtain ⟨f1, f2⟩ := orderP_few [(s, [[120]])]
  obtain ⟨L, e1, i1, g1⟩ := h1.few (m := 100000) (by omega) (fun a ha => by have := f2 a ha; omega)
  obtain ⟨L2, e2, i2, _⟩ := h2
  have := rsame7_is A B n c m d L L2 X i1 i2 g1
  rw [e1, e2] at this
  exact this
theorem setR_sub2 (e : List Att) (n : Txt) (l : List Txt) : ∀ a ∈ setR e n l, a ∈ e ∨ a = (n, l) := by
  have hp : ∀ e, ∀ a ∈ (preS e n l).1, a ∈ e ∨ a = (n, l) := by
    refine snoc_ind (by simp [preS]) (fun e x ih y hy => ?_)
    rw [preS_snoc] at hy
    unfold stepS at hy
    dsimp only at hy
    rcases List.mem_append.1 hy with h | h
    · rcases List.mem_append.1 h with h | h
      · rcases ih y h with h | h
        · exact .inl (List.mem_append.2 (.inl h))
        · exact .inr h
      · split at h
        · exact .inr (List.mem_singleton.1 h)
        · cases h
    · split at h
      · cases h
      · exact .inl (List.mem_append.2 (.inr h))
  intro a ha
  unfold setR at ha
  rcases List.mem_append.1 ha with h | h
  · exact hp e a h
  · split at h
    · cases h
    · exact .inr (List.mem_singleton.1 h)
theorem do_few2 {e E : List Att} {l : List Chg7} {no : Nat} (h : doP e l = (E, no)) : E.length ≤ 24 ∧ ∀ a ∈ E, a.2.length ≤ 16 := by
  have hg : ∀ (l : List Chg7) {E : List Att}, E.length ≤ 24 → (∀ a ∈ E, a.2.length ≤ 16) → (rdoGo E l).1.length ≤ 24 ∧ ∀ a ∈ (rdoGo E l).1, a.2.length ≤ 16 := by
    intro l
    induction l with
    | nil => intro E h1 h2; exact ⟨h1, h2⟩
    | cons m r ih =>
      intro E h1 h2
      unfold rdoGo
      split
      · simp
      · rename_i h3
        obtain ⟨h4, h5⟩ := one_ok (Decidable.not_not.1 h3)
        have h6 := Decidable.not_not.1 h3
        have h7 : (oneR E m.1.toNat (smallL m.2.1) m.2.2).1.length ≤ 24 ∧ (nowR m.1.toNat (cont2 E (smallL m.2.1)) m.2.2).1.length ≤ 16 := by
          unfold oneR at h6 ⊢
          rw [if_neg (by simp [h4])] at h6 ⊢
          split at h6
          · cases h6
          · rename_i h8
            rw [if_neg h8]
            simp only [Bool.or_eq_true, decide_eq_true_eq, not_or] at h8
            exact ⟨by show (setR _ _ _).length ≤ 24; omega, by omega⟩
        refine ih h7.1 (fun a ha => ?_)
        rw [h5] at ha
        rcases setR_sub2 _ _ _ a ha with h9 | h9
        · exact h2 a h9
        · rw [h9]; exact h7.2
  rw [← rdo_eq] at h
  have h9 := congrArg Prod.fst h
  dsimp only at h9
  rw [← h9]
  unfold rdoP
  split
  · simp
  · rename_i h1
    split
    · simp
    · have h2 : entOk e = true := by simpa using h1
      obtain ⟨_, h3, h4⟩ := entOk_parts h2
      exact hg l h3 (fun a ha => (h4 a ha).2.1)
set_option maxHeartbeats 16000000 in
theorem entryone_any (A : Option Addr) (n c : Nat) (l : List At7) (a b : Mod7) (w : World) (h : EntIn w A n l) (ha : a.a.fits w) (hb : b.a.fits w) (hp : PowAt w) :
    Calls Tryd.prog 4 #[.slice A n c, .agg #[.int .i64 a.k, tv a.a.name, .slice a.a.A a.a.n a.a.c], .agg #[.int .i64 b.k, tv b.a.name, .slice b.a.A b.a.n b.a.c]] w fun e w' => e = .returned (.bool true) ∧ Keeps [] w w' := by
  have HE1 := Lib.hid h
  have HMD := Lib.hid (fun (x y : Mod7) (X : World) (hX : Keeps [] w X) (hx : x.a.fits w) (hy : y.a.fits w) => mods_lit X [x, y] 2 #[.int .i64 x.k, tv x.a.name, .slice x.a.A x.a.n x.a.c, .int .i64 y.k, tv y.a.name, .slice y.a.A y.a.n y.a.c] rfl rfl (by omega) (fun m hm => by
    simp at hm
    rcases hm with rfl | rfl
    · exact hx.grow hX
    · exact hy.grow hX))
  have HMS := Lib.hid (fun (X : World) (hX : Keeps [] w X) => mods7_is (some ⟨X.heap.size, 0, none⟩) 2 2 [a, b] _ (HMD.out a b X hX ha hb))
  have HD1 := Lib.hid (fun (X : World) (hX : Keeps [] w X) (hf : Few7 1000 l) (hf2 : FewM 1000 [a, b]) => do_is A n c l (some ⟨X.heap.size, 0, none⟩) 2 2 [a, b] _ (EntIn.grow (hX.alloc _) h) hf (HMD.out a b X hX ha hb) hf2)
  have HD2 := Lib.hid (fun (X : World) (hX : Keeps [] w X) (hf : Few7 1000 l) (hf2 : FewM 1000 [b, a]) => do_is A n c l (some ⟨X.heap.size, 0, none⟩) 2 2 [b, a] _ (EntIn.grow (hX.alloc _) h) hf (HMD.out b a X hX hb ha) hf2)
  have HLI := Lib.hid (fun (X : World) (hX : Keeps [] w X) => light7_is A n c l X (EntIn.grow hX h))
  have HKN := Lib.hid (fun X (hX : Keeps [] w X) => known7_is X (hp.keep hX))
  have HOD := Lib.hid ordered7_is
  obtain ⟨k1, nm1, A1, n1, c1, vs1⟩ := a
  obtain ⟨k2, nm2, A2, n2, c2, vs2⟩ := b
  have HN1 : Hid (nm1.length ≤ 9223372036854775807) := ha.1
  have HN2 : Hid (nm2.length ≤ 9223372036854775807) := hb.1
  unfold tv at HMS HD1 HD2 HOD ⊢
  dsimp only at HMS HD1 HD2 ⊢
  have HK1 : Hid (Keeps [] w ((w.alloc (.cells #[.int .i64 k1, .string ⟨nm1.toArray⟩, .slice A1 n1 c1] 35)).alloc (.cells #[.int .i64 k2, .string ⟨nm2.toArray⟩, .slice A2 n2 c2] 35))) := ((Keeps.refl [] w).alloc _).alloc _
  have hb1 : ((w.alloc (.cells #[.int .i64 k1, .string ⟨nm1.toArray⟩, .slice A1 n1 c1] 35)).alloc (.cells #[.int .i64 k2, .string ⟨nm2.toArray⟩, .slice A2 n2 c2] 35)).heap[w.heap.size]? = some (.cells #[.int .i64 k1, .string ⟨nm1.toArray⟩, .slice A1 n1 c1] 35 (0, 0)) := blk_keep (heap_new8 w _) ((Keeps.refl [] _).alloc _) (by simp)
  have hb2 : ((w.alloc (.cells #[.int .i64 k1, .string ⟨nm1.toArray⟩, .slice A1 n1 c1] 35)).alloc (.cells #[.int .i64 k2, .string ⟨nm2.toArray⟩, .slice A2 n2 c2] 35)).heap[w.heap.size + 1]? = some (.cells #[.int .i64 k2, .string ⟨nm2.toArray⟩, .slice A2 n2 c2] 35 (0, 0)) := by
    have h9 := heap_new8 (w.alloc (.cells #[.int .i64 k1, .string ⟨nm1.toArray⟩, .slice A1 n1 c1] 35)) (.cells #[.int .i64 k2, .string ⟨nm2.toArray⟩, .slice A2 n2 c2] 35)
    rw [show (w.alloc (.cells #[.int .i64 k1, .string ⟨nm1.toArray⟩, .slice A1 n1 c1] 35)).heap.size = w.heap.size + 1 by simp] at h9
    exact h9
  obtain ⟨W2, hW2⟩ : ∃ W2, (w.alloc (.cells #[.int .i64 k1, .string ⟨nm1.toArray⟩, .slice A1 n1 c1] 35)).alloc (.cells #[.int .i64 k2, .string ⟨nm2.toArray⟩, .slice A2 n2 c2] 35) = W2 := ⟨_, rfl⟩
  rw [hW2] at HK1 hb1 hb2
  have HB := Lib.hid (fun X (hX : Keeps [] W2 X) => And.intro (cells3 (blk_keep hb1 hX (by simp))) (cells3 (blk_keep hb2 hX (by simp))))
  obtain ⟨⟨d0, d1, d2⟩, ⟨d3, d4, d5⟩⟩ := HB.out W2 (Keeps.refl _ _)
  have HPN := Lib.hid (fun (hl : (ents l).length ≤ 20) hne => one_names (e := ents l) (a := (k1, (nm1, vs1))) (b := (k2, (nm2, vs2))) hl hne)
  have HLE : Hid ((ents l).length = n) := by show _ = _; rw [ents_len, h.1]
  have hsz : (w.alloc (.cells #[.int .i64 k1, .string ⟨nm1.toArray⟩, .slice A1 n1 c1] 35)).heap.size = w.heap.size + 1 := by simp
  clear h hp ha hb hb1 hb2
  go_enter Tryd.func4, Tryd.ntmps4
  go_wp2_with fail
  refine (HLI.out _ HK1.out).mono ?_
  rintro e w1 ⟨r1, rfl, hr1, rfl⟩
  have HR1 := Lib.hid hr1
  clear hr1
  cases r1
  · go_wp2_with fail
    refine (HKN.out _ HK1.out).mono ?_
    rintro e y1 ⟨rfl, hy1⟩
    have HY1 := Lib.hid (HK1.out.trans' hy1)
    clear hy1
    go_wp2_with fail
    go_ret
    exact ⟨rfl, HY1.out⟩
  · go_wp2_with fail
    refine (HMS.out _ HK1.out).mono ?_
    rintro e x1 ⟨r2, rfl, hr2, hk2⟩
    have HR2 := Lib.hid hr2
    have HX1 : Hid (Keeps [] W2 x1) := ((Keeps.refl [] W2).alloc _).trans' hk2
    clear hr2 hk2 d0 d1 d2 d3 d4 d5
    cases r2
    · go_wp2_with fail
      refine (HKN.out _ (HK1.out.trans' HX1.out)).mono ?_
      rintro e y1 ⟨rfl, hy1⟩
      have HY1 := Lib.hid ((HK1.out.trans' HX1.out).trans' hy1)
      clear hy1
      go_wp2_with fail
      go_ret
      exact ⟨rfl, HY1.out⟩
    · by_cases h20 : 20 < n
      · have h20i : (20 : Int) < (n : Int) := by omega
        go_wp2_with fail
        refine (HKN.out _ (HK1.out.trans' HX1.out)).mono ?_
        rintro e y1 ⟨rfl, hy1⟩
        have HY1 := Lib.hid ((HK1.out.trans' HX1.out).trans' hy1)
        clear hy1
        go_wp2_with fail
        go_ret
        exact ⟨rfl, HY1.out⟩
      · have h20i : ¬ (20 : Int) < (n : Int) := by omega
        have hl1 : LightE l := HR1.out (by first | exact trivial | rfl)
        have hl2 : LightM [⟨k1, ⟨nm1, A1, n1, c1, vs1⟩⟩, ⟨k2, ⟨nm2, A2, n2, c2, vs2⟩⟩] := HR2.out (by first | exact trivial | rfl)
        have hl3 : FewM 1000 [⟨k2, ⟨nm2, A2, n2, c2, vs2⟩⟩, ⟨k1, ⟨nm1, A1, n1, c1, vs1⟩⟩] := ⟨by simp, fun m hm => (hl2.few 1000 (by omega)).2 m (by simp at hm ⊢; exact hm.symm)⟩
        have HDA := Lib.hid (fun (X : World) (hX : Keeps [] w X) => HD1.out X hX (hl1.few 1000 (by omega)) (hl2.few 1000 (by omega)))
        have HDB := Lib.hid (fun (X : World) (hX : Keeps [] w X) => HD2.out X hX (hl1.few 1000 (by omega)) hl3)
        have hm1 : modsOf [⟨k1, ⟨nm1, A1, n1, c1, vs1⟩⟩, ⟨k2, ⟨nm2, A2, n2, c2, vs2⟩⟩] = [(k1, (nm1, vs1)), (k2, (nm2, vs2))] := rfl
        have hm2 : modsOf [⟨k2, ⟨nm2, A2, n2, c2, vs2⟩⟩, ⟨k1, ⟨nm1, A1, n1, c1, vs1⟩⟩] = [(k2, (nm2, vs2)), (k1, (nm1, vs1))] := rfl
        rw [hm1] at HDA
        rw [hm2] at HDB
        have HPY := Lib.hid (HPN.out (by rw [HLE.out]; omega))
        obtain ⟨P1, hP1⟩ : ∃ P, doP (ents l) [(k1, (nm1, vs1)), (k2, (nm2, vs2))] = P := ⟨_, rfl⟩
        obtain ⟨P2, hP2⟩ : ∃ P, doP (ents l) [(k2, (nm2, vs2)), (k1, (nm1, vs1))] = P := ⟨_, rfl⟩
        rw [hP1] at HDA HPY
        rw [hP2] at HDB HPY
        obtain ⟨E1, no1⟩ := P1
        obtain ⟨E2, no2⟩ := P2
        dsimp only at HPY
        have HF1 := Lib.hid (do_few2 hP1)
        have HF2 := Lib.hid (do_few2 hP2)
        clear hl1 hl2 hl3 hm1 hm2 hP1 hP2 HD1 HD2 HMS HLI HMD HPN HR1 HR2
        obtain ⟨⟨d0, d1, d2⟩, ⟨d3, d4, d5⟩⟩ := HB.out x1 HX1.out
        go_wp2_with fail
        refine (HDA.out _ (HK1.out.trans' HX1.out)).mono ?_
        rintro e y1 ⟨A3, n3, c3, rfl, hQ3, hk3⟩
        have HQ3 : Hid (EntQ E1 w A3 n3 c3 y1) := hQ3
        have HY1 : Hid (Keeps [] W2 y1) := HX1.out.trans' (((Keeps.refl [] x1).alloc _).trans' hk3)
        clear hQ3 hk3 d0 d1 d2 d3 d4 d5
        obtain ⟨⟨d0, d1, d2⟩, ⟨d3, d4, d5⟩⟩ := HB.out y1 HY1.out
        go_wp2_with fail
        refine (HDB.out _ (HK1.out.trans' HY1.out)).mono ?_
        rintro e x2 ⟨A4, n4, c4, rfl, hQ4, hk4⟩
        replace hQ4 : EntQ E2 w A4 n4 c4 x2 := hQ4
        have HX2 : Hid (Keeps [] y1 x2) := ((Keeps.refl [] y1).alloc _).trans' hk4
        have HW2 : Hid (Keeps [] W2 x2) := HY1.out.trans' HX2.out
        obtain ⟨L3, e3, i3, f3⟩ := HQ3.out.few (m := 1000) (by have := HF1.out.1; omega) (fun a ha => by have := HF1.out.2 a ha; omega)
        obtain ⟨L4, e4, i4, f4⟩ := hQ4.few (m := 1000) (by have := HF2.out.1; omega) (fun a ha => by have := HF2.out.2 a ha; omega)
        have HSR := Lib.hid (fun (X : World) (hX : Keeps [] x2 X) => rsame7_is A3 A4 n3 c3 n4 c4 L3 L4 X (EntIn.grow (HX2.out.trans' hX) i3) (EntIn.grow hX i4) ⟨by have := f3.1; omega, fun a ha => by have := f3.2 a ha; omega⟩)
        rw [e3, e4] at HSR
        have HF : Hid (∀ X, Keeps [] x2 X → X.cell? ⟨w.heap.size, 1, none⟩ = some (.string ⟨nm1.toArray⟩) ∧ X.cell? ⟨w.heap.size + 1, 1, none⟩ = some (.string ⟨nm2.toArray⟩)) := fun X hX => ⟨(HB.out X (HW2.out.trans' hX)).1.2.1, (HB.out X (HW2.out.trans' hX)).2.2.1⟩
        have HSO := Lib.hid (fun (s t : Txt) (A B : Option Addr) (n m c d : Nat) (X : World) (Y Z : World) (h1 : EntQ (orderP [(s, [[120]])]).1 Y A n c X) (h2 : EntQ (orderP [(t, [[120]])]).1 Z B m d X) => ordsame_is s t A B n m c d X h1 h2)
        clear e3 e4 i3 i4 f3 f4 hQ4 hk4 d0 d1 d2 d3 d4 d5 HDA HDB
        go_wp2_with fail
        refine wp_region_held_drew (S := (fun X => X.cell? ⟨w.heap.size, 1, none⟩ = some (.string ⟨nm1.toArray⟩) ∧ X.cell? ⟨w.heap.size + 1, 1, none⟩ = some (.string ⟨nm2.toArray⟩))) (by kernel_rfl) (HF.out _ ((Keeps.refl [] x2).drew)) ?_
        intro HS
        refine wpAnyH_take (i := 0) (v := .pointer (some ⟨w.heap.size, 1, none⟩)) rfl (by kernel_rfl) (by kernel_rfl) (by kernel_rfl) (fun _ _ _ h => h) (Or.inl ⟨by kernel_rfl, ?_⟩) HS ?_
        · intro w5 hw5
          obtain ⟨d0, d1⟩ := hw5
          go_simp
        simp only [List.getElem_toArray, List.getElem_cons_succ, List.getElem_cons_zero, Act.put, List.setIfInBounds_toArray, List.set_cons_zero, List.set_cons_succ]
        refine wpAnyH_take (i := 1) (v := .string ⟨nm1.toArray⟩) rfl (by kernel_rfl) (by kernel_rfl) (by kernel_rfl) (fun _ _ _ h => h) (Or.inl ⟨by kernel_rfl, ?_⟩) HS ?_
        · intro w5 hw5
          obtain ⟨d0, d1⟩ := hw5
          go_simp
        simp only [List.getElem_toArray, List.getElem_cons_succ, List.getElem_cons_zero, Act.put, List.setIfInBounds_toArray, List.set_cons_zero, List.set_cons_succ]
        refine wpAnyH_take (i := 3) (v := .pointer (some ⟨w.heap.size + 1, 1, none⟩)) rfl (by kernel_rfl) (by kernel_rfl) (by kernel_rfl) (fun _ _ _ h => h) (Or.inl ⟨by kernel_rfl, ?_⟩) HS ?_
        · intro w5 hw5
          obtain ⟨d0, d1⟩ := hw5
          go_simp
        simp only [List.getElem_toArray, List.getElem_cons_succ, List.getElem_cons_zero, Act.put, List.setIfInBounds_toArray, List.set_cons_zero, List.set_cons_succ]
        refine wpAnyH_take (i := 4) (v := .string ⟨nm2.toArray⟩) rfl (by kernel_rfl) (by kernel_rfl) (by kernel_rfl) (fun _ _ _ h => h) (Or.inl ⟨by kernel_rfl, ?_⟩) HS ?_
        · intro w5 hw5
          obtain ⟨d0, d1⟩ := hw5
          go_simp
        simp only [List.getElem_toArray, List.getElem_cons_succ, List.getElem_cons_zero, Act.put, List.setIfInBounds_toArray, List.set_cons_zero, List.set_cons_succ]
        refine wpAnyH_ready (rs := [2]) (by kernel_rfl) (by simp) ?_
        refine AllReadyH.cons rfl (fun K hK => ?_) AllReadyH.nil
        go_simp
        refine (HOD.out nm1 _ HN1.out).mono ?_
        rintro e za ⟨Aa, na, ca, rfl, hQa, hka⟩
        have Ka : Hid (Keeps [] x2 za) := Keeps.trans' ((Keeps.refl [] x2).drew) hka
        refine hK.out _ _ (HF.out _ Ka.out) (fun HS => ?_)
        clear hK K
        refine wpAnyH_ready (rs := [5]) (by kernel_rfl) (by simp) ?_
        refine AllReadyH.cons rfl (fun K hK => ?_) AllReadyH.nil
        go_simp
        refine (HOD.out nm2 _ HN2.out).mono ?_
        rintro e zb ⟨Ab, nb, cb, rfl, hQb, hkb⟩
        have Kb : Hid (Keeps [] x2 zb) := Ka.out.trans' hkb
        refine hK.out _ _ (HF.out _ Kb.out) (fun HS => ?_)
        clear hK K
        have HSM := Lib.hid (HSO.out nm1 nm2 Aa Ab na nb ca cb zb _ _ (EntQ.grow hkb hQa) hQb)
        clear hQa hQb hka hkb
        refine wpAnyH_ready (rs := [6]) (by kernel_rfl) (by simp) ?_
        refine AllReadyH.cons rfl (fun K hK => ?_) AllReadyH.nil
        go_simp
        refine HSM.out.mono ?_
        rintro e x3 ⟨rfl, hk3⟩
        have HX3 : Hid (Keeps [] x2 x3) := Kb.out.trans' hk3
        clear hk3
        refine hK.out _ _ (HF.out _ HX3.out) (fun HS => ?_)
        clear hK K
        refine wpAnyH_done (by kernel_rfl) ?_ _
        obtain ⟨q, hq⟩ : ∃ q, ((orderP [(nm1, [[120]])]).1 == (orderP [(nm2, [[120]])]).1) = q := ⟨_, rfl⟩
        rw [hq] at HPY ⊢
        have HK3 : Hid (Keeps [] w x3) := HK1.out.trans' (HW2.out.trans' HX3.out)
        clear hq HS HSM
        cases q
        · obtain ⟨hd, he⟩ := HPY.out rfl
          have HSS := Lib.hid (HSR.out _ HX3.out)
          subst he
          have hself : (E1 == E1) = true := by simp
          rw [hself] at HSS
          clear hself
          by_cases h0 : no1 = 0
          · have h0' : no2 = 0 := by rw [h0] at hd; simpa using hd.symm
            subst h0 h0'
            clear hd
            go_wp2_with fail
            refine HSS.out.mono ?_
            rintro e x4 ⟨rfl, hk4⟩
            have HK4 := Lib.hid (HK3.out.trans' hk4)
            clear hk4
            go_wp2_with fail
            refine (HKN.out _ HK4.out).mono ?_
            rintro e y1 ⟨rfl, hy1⟩
            have HY1 := Lib.hid (HK4.out.trans' hy1)
            clear hy1
            go_wp2_with fail
            go_ret
            exact ⟨rfl, HY1.out⟩
          · have h0' : ¬ no2 = 0 := fun h9 => h0 (by rw [h9] at hd; simpa using hd)
            have g1 : ((no1 : Int) == 0) = false := by simpa using h0
            have g2 : ((no2 : Int) == 0) = false := by simpa using h0'
            have g3 : ¬ (no1 : Int) = 0 := by omega
            have g4 : ¬ (no2 : Int) = 0 := by omega
            clear hd
            go_wp2_with fail
            refine HSS.out.mono ?_
            rintro e x4 ⟨rfl, hk4⟩
            have HK4 := Lib.hid (HK3.out.trans' hk4)
            clear hk4
            go_wp2_with fail
            refine (HKN.out _ HK4.out).mono ?_
            rintro e y1 ⟨rfl, hy1⟩
            have HY1 := Lib.hid (HK4.out.trans' hy1)
            clear hy1
            go_wp2_with fail
            go_ret
            exact ⟨rfl, HY1.out⟩
        · go_wp2_with fail
          refine (HKN.out _ HK3.out).mono ?_
          rintro e y1 ⟨rfl, hy1⟩
          have HY1 := Lib.hid (HK3.out.trans' hy1)
          clear hy1
          go_wp2_with fail
          go_ret
          exact ⟨rfl, HY1.out⟩
end Go.Proofs.YtfjlcfbomlfpfaaDoor
