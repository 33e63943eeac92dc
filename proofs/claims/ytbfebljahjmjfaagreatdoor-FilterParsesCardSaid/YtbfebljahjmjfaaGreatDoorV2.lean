
/- entry: texts in memory; isLong, isName, mayBe; walked. -/
import Derived.Test.YtbfebljahjmjfaaGreatDoorV1
import Derived.Test.YtbfebljahjmjfaaGreatDoorN7
import Derived.Test.YtbfebljahjmjfaaGreatDoorN14
import Derived.BigQuiet
namespace Go.Proofs.YtbfebljahjmjfaaGreatDoor
open Go.RowKit Go.Shelf
set_option linter.unusedVariables false
set_option linter.unusedSimpArgs false
set_option maxRecDepth 100000

/-- Texts in memory, one behind the other. -/
def StrsIn (w : World) (A : Option Addr) (n : Nat) (l : List Txt) : Prop :=
  l.length = n ∧ (∀ s ∈ l, s.length ≤ 9223372036854775807) ∧ (0 < n → ∃ b o, A = some ⟨b, o, none⟩ ∧ ∀ (i : Nat) (s : Txt), l[i]? = some s → w.cell? ⟨b, o + i, none⟩ = some (tv s))
theorem StrsIn.grow {w w' : World} {A : Option Addr} {n : Nat} {l : List Txt} (hk : Keeps [] w w') (h : StrsIn w A n l) : StrsIn w' A n l := by
  obtain ⟨h1, h2, h3⟩ := h
  refine ⟨h1, h2, fun hp => ?_⟩
  obtain ⟨b, o, e, hc⟩ := h3 hp
  exact ⟨b, o, e, fun i s hi => (hk.cell (lt_of_cell (hc i s hi)) (by simp)).trans (hc i s hi)⟩
theorem StrsIn.keep {w w' : World} {A : Option Addr} {n : Nat} {l : List Txt} {bs : List Nat} (hk : Keeps bs w w') (h : StrsIn w A n l) (hb : ∀ b o, A = some ⟨b, o, none⟩ → b ∉ bs) : StrsIn w' A n l := by
  obtain ⟨h1, h2, h3⟩ := h
  refine ⟨h1, h2, fun hp => ?_⟩
  obtain ⟨b, o, e, hc⟩ := h3 hp
  exact ⟨b, o, e, fun i s hi => (hk.cell (lt_of_cell (hc i s hi)) (hb b o e)).trans (hc i s hi)⟩
theorem StrsIn.nil (w : World) (A : Option Addr) : StrsIn w A 0 [] := ⟨rfl, by simp, fun h => by omega⟩
theorem StrsIn.of_own {w : World} {B n c : Nat} {A : Option Addr} {t : TypeId} {l : List Txt} (h : w.ownsRow B t 1 (.slice A n c) n (l.map tv)) (hn : l.length = n) (hl : ∀ s ∈ l, s.length ≤ 9223372036854775807) : StrsIn w A n l := by
  refine ⟨hn, hl, fun hp => ?_⟩
  rcases h.2 with ⟨_, h2⟩ | ⟨g, cap, cur, hA, hg, hh, r⟩
  · omega
  · injection hA with e1 e2 e3
    subst e1
    refine ⟨g, 0, rfl, fun i s hi => ?_⟩
    have c1 := h.cells (g := g) rfl i (tv s) (by rw [List.getElem?_map, hi]; rfl)
    rw [show (⟨g, 0, none⟩ : Addr).add i = ⟨g, 0 + i, none⟩ from by unfold Addr.add; split <;> simp_all] at c1
    exact c1

theorem one_rdn (w : World) (r : Part6) (t : TypeId) (h1 : r.1.length ≤ 9223372036854775807) (h2 : r.2.length ≤ 9223372036854775807) : DnIn (w.alloc (.cells #[tv r.1, tv r.2] t)) (some ⟨w.heap.size, 0, none⟩) 1 [r] := by
  refine ⟨rfl, fun p hp => ?_, fun _ => ⟨w.heap.size, 0, rfl, fun i p hi => ?_⟩⟩
  · simp at hp
    subst hp
    exact ⟨h1, h2⟩
  · cases i with
    | zero =>
      simp at hi
      subst hi
      exact two_facts6 (heap_new8 w _)
    | succ i => simp at hi

/-- More attributes, or Values of one, than may be. -/
def longN (n m : Nat) : Bool := decide (24 < n) || decide (16 < m)
theorem islong_is (n m : Nat) (w : World) : Calls Tryz.prog 186 #[.int .i64 (n : Int), .int .i64 (m : Int)] w fun e w' => e = .returned (.bool (longN n m)) ∧ w = w' := by
  obtain ⟨r, hr⟩ : ∃ r, longN n m = r := ⟨_, rfl⟩
  rw [hr]
  unfold longN at hr
  rcases Nat.lt_or_ge 24 n with h1 | h1
  · have hg : (24 : Int) < (n : Int) := by omega
    obtain rfl : r = true := by rw [← hr, show decide (24 < n) = true by simp; omega]; rfl
    clear hr h1
    go_enter Tryz.func186, Tryz.ntmps186
    go_wp2_with fail
    go_ret
    exact ⟨rfl, rfl⟩
  · have hg : ¬ (24 : Int) < (n : Int) := by omega
    have hr2 : decide ((16 : Int) < (m : Int)) = r := by
      rw [← hr, show decide (24 < n) = false by simp; omega, Bool.false_or]
      exact decide_eq_decide.2 (by omega)
    clear hr h1
    go_enter Tryz.func186, Tryz.ntmps186
    go_wp2_with fail
    go_ret
    exact ⟨by rw [← hr2]; first | rfl | simp, rfl⟩

theorem name_low (s : Txt) : typeOk (smallL s) = nameT s := by
  have letr_low : ∀ c : UInt8, letr1 (small1 c) = letr1 c := fun c => by
    have h := small1_nat c
    unfold letr1
    rw [h, Bool.eq_iff_iff]
    split <;> simp <;> omega
  have nam_low : ∀ c : UInt8, nam1 (small1 c) = nam1 c := fun c => by
    have h := small1_nat c
    unfold nam1
    rw [letr_low, h, Bool.eq_iff_iff]
    unfold letr1
    split <;> simp <;> omega
  have h0 : nameT (smallL s) = nameT s := by
    have h1 : (smallL s).all nam1 = s.all nam1 := by
      unfold smallL
      rw [List.all_map]
      congr 1
      funext c
      exact nam_low c
    unfold nameT
    rw [h1, smallL_len]
    cases s with
    | nil => rfl
    | cons c r =>
      have h2 : (smallL (c :: r)).head? = some (small1 c) := rfl
      rw [h2]
      simp only [Option.map_some, Option.getD_some, List.head?_cons, letr_low]
  rw [type_name, h0, smallL_idem]
  simp

theorem isname_is (s : Txt) (w : World) (hs : s.length ≤ 9223372036854775807) : Calls Tryz.prog 285 #[.string ⟨s.toArray⟩] w fun e w' => e = .returned (.bool (nameT s)) ∧ Keeps [] w w' := by
  have HSM := Lib.hid (small_is s w hs)
  have hsl : (smallL s).length ≤ 9223372036854775807 := by rw [smallL_len]; exact hs
  have hok : nameOk [(smallL s, [97, 110, 121])] = nameT s := by
    unfold nameOk partOk
    simp only [List.all_cons, List.all_nil, Bool.and_true, name_low, List.length_cons, List.length_nil]
    cases nameT s <;> rfl
  obtain ⟨z, hz⟩ : ∃ z, smallL s = z := ⟨_, rfl⟩
  rw [hz] at HSM hsl hok
  obtain ⟨r, hr⟩ : ∃ r, nameT s = r := ⟨_, rfl⟩
  rw [hr] at hok ⊢
  have HCH := Lib.hid (fun X : World => check6_is (some ⟨X.heap.size, 0, none⟩) 1 1 [(z, [97, 110, 121])] _ (by decide) (one_rdn X (z, [97, 110, 121]) 63 hsl (by simp)))
  rw [hok] at HCH
  clear hz hr hok hs hsl
  go_enter Tryz.func285, Tryz.ntmps285
  go_wp2_with fail
  refine HSM.out.mono ?_
  rintro e w1 ⟨rfl, hk1⟩
  have HK1 := Lib.hid hk1
  clear hk1
  go_wp2_with fail
  refine (HCH.out w1).mono ?_
  rintro e w2 ⟨rfl, hk2⟩
  have HK2 : Hid (Keeps [] w w2) := (HK1.out.alloc _).trans' hk2
  clear hk2
  cases r
  · simp only [Bool.false_eq_true, if_false]
    go_wp2_with fail
    go_ret
    exact ⟨rfl, HK2.out⟩
  · simp only [if_true]
    go_wp2_with fail
    go_ret
    exact ⟨rfl, HK2.out⟩

/-- May a text be a Value? -/
def valOk (s : Txt) : Bool := decide (1 ≤ s.length) && decide (s.length ≤ 2048)
def maybeA (name : Txt) (vs : List Txt) : Bool := vs.all valOk && nameT name
theorem vals_take {vs : List Txt} {j : Nat} {s : Txt} (h : vs[j]? = some s) : (vs.take (j + 1)).all valOk = ((vs.take j).all valOk && valOk s) := by
  rw [List.take_add_one, h, List.all_append]
  simp
theorem vals_cut {vs : List Txt} {j : Nat} {s : Txt} (h : vs[j]? = some s) (h2 : valOk s = false) : vs.all valOk = false := by
  rw [List.all_eq_false]
  exact ⟨s, List.mem_of_getElem? h, by simp [h2]⟩

set_option maxHeartbeats 4000000 in
theorem maybe7_is (name : Txt) (A : Option Addr) (n c : Nat) (vs : List Txt) (w : World) (hs : name.length ≤ 9223372036854775807) (h : StrsIn w A n vs) (hn : n ≤ 9223372036854775807) :
    Calls Tryz.prog 242 #[.string ⟨name.toArray⟩, .slice A n c] w fun e w' => e = .returned (.bool (maybeA name vs)) ∧ Keeps [] w w' := by
  have HD := Lib.hid h
  have HNM := Lib.hid (isname_is name w hs)
  obtain ⟨nm, hnm⟩ : ∃ nm, nameT name = nm := ⟨_, rfl⟩
  have HR : Hid (maybeA name vs = (vs.all valOk && nm)) := by show _ = _; unfold maybeA; rw [hnm]
  rw [hnm] at HNM
  obtain ⟨V, hV⟩ : ∃ V : World, V = w := ⟨_, rfl⟩
  subst hV
  have HV : Hid (StrsIn V A n vs) := h
  clear h hs hnm
  go_enter Tryz.func242, Tryz.ntmps242
  go_wp2_with fail
  refine wp_scope_once 0 rfl ?_
  go_wp2_with fail
  go_loopw [9] (fun i wr => ∃ j : Nat, i = .int .i64 (j : Int) ∧ j ≤ n ∧ Hid ((vs.take j).all valOk = true) ∧ wr = V) (fun i _ => n - (intOf i).toNat)
  case atStart => exact ⟨0, rfl, Nat.zero_le _, rfl, rfl⟩
  case round =>
    obtain ⟨j, rfl, hj, HA, rfl⟩ := hrel
    by_cases hlt : j < n
    · obtain ⟨hl, hp, hc9⟩ := HV.out
      obtain ⟨b, o, hA9, hcc⟩ := hc9 (by omega)
      subst hA9
      obtain ⟨s, hu⟩ : ∃ s, vs[j]? = some s := ⟨_, List.getElem?_eq_getElem (by omega)⟩
      have c0 := hcc j s hu
      have hsl := hp s (List.mem_of_getElem? hu)
      have HT := Lib.hid (vals_take hu)
      have HC := Lib.hid (fun h => vals_cut hu h)
      unfold tv at c0
      obtain ⟨q, hq⟩ : ∃ q, valOk s = q := ⟨_, rfl⟩
      rw [hq] at HT HC
      unfold valOk at hq
      obtain ⟨m, hm⟩ : ∃ m, s.length = m := ⟨_, rfl⟩
      have hTL : (⟨s.toArray⟩ : ByteArray).size = m := hm
      rw [hm] at hq
      have hji : (j : Int) < (n : Int) := by omega
      clear hcc hu hp hl hc9 hsl hm
      rcases Nat.eq_zero_or_pos m with h0 | h0
      · obtain rfl : q = false := by rw [← hq, h0]; rfl
        have hg : (m : Int) < 1 := by omega
        clear hq h0
        go_wp2_with fail
        go_step3
        refine ⟨rfl, ?_⟩
        go_wp2
        rw [Exit.noGoto_ret]
        go_ret
        exact ⟨by rw [HR.out, HC.out (by first | exact trivial | rfl)]; rfl, Keeps.refl _ _⟩
      · have hg : ¬ (m : Int) < 1 := by omega
        rcases Nat.lt_or_ge 2048 m with h2 | h2
        · obtain rfl : q = false := by rw [← hq, show decide (m ≤ 2048) = false by simp; omega]; simp
          have hg2 : (2048 : Int) < (m : Int) := by omega
          clear hq h0 h2
          go_wp2_with fail
          go_step3
          refine ⟨rfl, ?_⟩
          go_wp2
          rw [Exit.noGoto_ret]
          go_ret
          exact ⟨by rw [HR.out, HC.out (by first | exact trivial | rfl)]; rfl, Keeps.refl _ _⟩
        · obtain rfl : q = true := by rw [← hq, show decide (m ≤ 2048) = true by simp; omega, show decide (1 ≤ m) = true by simp; omega]; rfl
          have hg2 : ¬ (2048 : Int) < (m : Int) := by omega
          clear hq h0 h2
          go_wp2_with fail
          go_roundw
          case rel => exact ⟨j + 1, by go_num, by omega, by show _ = _; rw [HT.out, HA.out]; rfl, trivial⟩
          case measure => simp [intOf]; omega
    · obtain rfl : j = n := by omega
      have h9 := HA.out
      rw [List.take_of_length_le (by rw [HV.out.1]; exact Nat.le_refl _)] at h9
      have H9 : Hid (maybeA name vs = nm) := by show _ = _; rw [HR.out, h9]; rfl
      clear h9
      go_wp2_with fail
      refine HNM.out.mono ?_
      rintro e w1 ⟨rfl, hk1⟩
      have HK1 := Lib.hid hk1
      clear hk1
      cases nm
      · go_wp2_with fail
        go_step3
        refine ⟨rfl, ?_⟩
        go_wp2
        rw [Exit.noGoto_ret]
        go_ret
        exact ⟨by rw [H9.out]; rfl, HK1.out⟩
      · go_wp2_with fail
        simp only [Exit.jump]
        go_ret
        exact ⟨by rw [H9.out]; rfl, HK1.out⟩
end Go.Proofs.YtbfebljahjmjfaaGreatDoor
