/- Texts of one proof, laid together: V1 V2 V3. -/
import Derived.Lib.SlicesCompact
import Derived.Test.YtoggddoeanfjeaaGreatDoorM04
import Derived.Test.YtoggddoeanfjeaaGreatDoorM05
import Derived.Test.YtoggddoeanfjeaaGreatDoorM08
import Derived.BigQuiet
import Derived.RangeFuncNested
import Derived.RangeFuncFrom
import Derived.RangeFuncBound
import Derived.RangeFuncCalls
import Derived.RangeFuncLeaves
import Derived.RangeFuncBox
import Derived.Shelf.Abstract
import Derived.OwnWalkIn
import Derived.TacticsInMore
import Derived.LoopNIn
import Derived.LoopIn
import Derived.Laws.EntriesVeiled
/- entry: texts that rise, as words. -/
namespace Go.Proofs.YtoggddoeanfjeaaGreatDoor
open Go.RowKit Go.Shelf
set_option linter.unusedVariables false
set_option linter.unusedSimpArgs false

abbrev Txt := List UInt8
theorem tx_irr (a : Txt) : ¬ a < a := List.lt_irrefl a
theorem tx_tr {a b c : Txt} (h : a < b) (h2 : b < c) : a < c := List.lt_trans h h2
theorem tx_tot (a b : Txt) : a ≤ b ∨ b ≤ a := List.le_total a b
theorem tx_anti {a b : Txt} (h : a ≤ b) (h2 : b ≤ a) : a = b := List.le_antisymm h h2
theorem tx_letr {a b c : Txt} (h : a ≤ b) (h2 : b ≤ c) : a ≤ c := List.le_trans h h2
theorem tx_le {a b : Txt} (h : a < b) : a ≤ b := List.le_of_lt h
theorem tx_lt {a b : Txt} (h : a ≤ b) (h2 : a ≠ b) : a < b := by
  rcases Decidable.em (a < b) with h3 | h3
  · exact h3
  · exact absurd (tx_anti h (List.not_lt.1 h3)) h2
theorem tx_ne {a b : Txt} (h : a < b) : a ≠ b := fun e => tx_irr b (by rw [e] at h; exact h)
theorem tx_not {a b : Txt} (h : ¬ a < b) : b ≤ a := List.not_lt.1 h
theorem tx_lelt {a b c : Txt} (h : a ≤ b) (h2 : b < c) : a < c := by
  rcases Decidable.em (a = b) with e | e
  · rw [e]; exact h2
  · exact tx_tr (tx_lt h e) h2

/-- Texts that rise, no two the same. -/
def Rise (l : List Txt) : Prop := l.Pairwise (· < ·)
theorem rise_same : ∀ {l m : List Txt}, Rise l → Rise m → (∀ x, x ∈ l ↔ x ∈ m) → l = m
  | [], [], _, _, _ => rfl
  | [], b :: m, _, _, h => absurd ((h b).2 (by simp)) (by simp)
  | a :: l, [], _, _, h => absurd ((h a).1 (by simp)) (by simp)
  | a :: l, b :: m, hl, hm, h => by
    have hl' := List.pairwise_cons.1 hl
    have hm' := List.pairwise_cons.1 hm
    have hab : a = b := by
      have h1 := (h a).1 (by simp)
      have h2 := (h b).2 (by simp)
      simp only [List.mem_cons] at h1 h2
      rcases h1 with h1 | h1
      · exact h1
      · rcases h2 with h2 | h2
        · exact h2.symm
        · exact absurd (tx_tr (hl'.1 b h2) (hm'.1 a h1)) (tx_irr a)
    subst hab
    rw [rise_same hl'.2 hm'.2 (fun x => ?_)]
    constructor
    · intro hx
      have h1 := (h x).1 (List.mem_cons_of_mem _ hx)
      simp only [List.mem_cons] at h1
      rcases h1 with h1 | h1
      · exact absurd (hl'.1 x hx) (by rw [h1]; exact tx_irr a)
      · exact h1
    · intro hx
      have h1 := (h x).2 (List.mem_cons_of_mem _ hx)
      simp only [List.mem_cons] at h1
      rcases h1 with h1 | h1
      · exact absurd (hm'.1 x hx) (by rw [h1]; exact tx_irr a)
      · exact h1
theorem rise_nodup {l : List Txt} (h : Rise l) : l.Nodup := h.imp fun {a b} hab => tx_ne hab

/-- Texts sorted, each once. -/
def ordS (l : List Txt) : List Txt := Go.Lib.compact (l.mergeSort fun a b => decide (a ≤ b))
theorem sort_le (l : List Txt) : (l.mergeSort fun a b => decide (a ≤ b)).Pairwise (· ≤ ·) := by
  have h := List.pairwise_mergeSort (le := fun a b : Txt => decide (a ≤ b)) (fun a b c h1 h2 => by simp only [decide_eq_true_eq] at *; exact tx_letr h1 h2) (fun a b => by simp only [Bool.or_eq_true, decide_eq_true_eq]; exact tx_tot a b) l
  exact h.imp fun {a b} hab => by simpa using hab
theorem compact_upto (d : Array Txt) (hd : d.toList.Pairwise (· ≤ ·)) : ∀ m, m ≤ d.size → (Rise (Go.Lib.compactUpTo d m) ∧ ∀ x, x ∈ Go.Lib.compactUpTo d m ↔ x ∈ d.toList.take m) ∧ ∀ (j : Nat), j + 1 = m → ∀ x ∈ Go.Lib.compactUpTo d m, x ≤ d[j]!
  | 0, _ => by
    refine ⟨⟨List.Pairwise.nil, fun x => by simp [Go.Lib.compactUpTo]⟩, fun j h => by omega⟩
  | m + 1, hm => by
    obtain ⟨⟨h1, h2⟩, h3⟩ := compact_upto d hd m (by omega)
    have hget : d[m]! = d.toList[m]'(by simp; omega) := by rw [getElem!_pos d m (by omega)]; simp
    have htk : d.toList.take (m + 1) = d.toList.take m ++ [d[m]!] := by rw [List.take_add_one, List.getElem?_eq_getElem (by simp; omega), hget]; rfl
    have hle : ∀ x ∈ d.toList.take m, x ≤ d[m]! := fun x hx => by
      obtain ⟨i, hi, rfl⟩ := List.mem_take_iff_getElem.1 hx
      rw [hget]
      exact List.pairwise_iff_getElem.1 hd i m (by omega) (by simp; omega) (by omega)
    rw [Go.Lib.compactUpTo_succ]
    cases hk : Go.Lib.keeps d m with
    | true =>
      simp only [if_true]
      refine ⟨⟨?_, fun x => by rw [htk, List.mem_append, List.mem_append, h2 x]⟩, fun j hj x hx => ?_⟩
      · unfold Rise
        rw [List.pairwise_append]
        refine ⟨h1, by simp, fun x hx y hy => ?_⟩
        simp only [List.mem_singleton] at hy
        subst hy
        cases m with
        | zero => simp [Go.Lib.compactUpTo] at hx
        | succ j =>
          have hxj := h3 j rfl x hx
          have hne : d[j + 1]! ≠ d[j]! := by simpa [Go.Lib.keeps] using hk
          have hjm : d[j]! ≤ d[j + 1]! := hle _ (by
            rw [List.mem_take_iff_getElem]
            exact ⟨j, by simp; omega, by rw [getElem!_pos d j (by omega)]; simp⟩)
          exact tx_lelt hxj (tx_lt hjm (fun e => hne e.symm))
      · obtain rfl : j = m := by omega
        rcases List.mem_append.1 hx with hx | hx
        · exact hle x ((h2 x).1 hx)
        · simp only [List.mem_singleton] at hx
          rw [hx]
          exact List.le_refl _
    | false =>
      simp only [Bool.false_eq_true, if_false, List.append_nil]
      have hkf : m ≠ 0 ∧ d[m]! = d[m - 1]! := by
        simp only [Go.Lib.keeps, decide_eq_false_iff_not, not_or, Decidable.not_not, ne_eq] at hk
        exact hk
      refine ⟨⟨h1, fun x => ?_⟩, fun j hj x hx => ?_⟩
      · rw [htk, List.mem_append, h2 x]
        constructor
        · exact .inl
        · rintro (h | h)
          · exact h
          · simp only [List.mem_singleton] at h
            rw [h, hkf.2, List.mem_take_iff_getElem]
            exact ⟨m - 1, by simp; omega, by rw [getElem!_pos d (m - 1) (by omega)]; simp⟩
      · obtain rfl : j = m := by omega
        exact hle x ((h2 x).1 hx)
theorem ordS_is (l : List Txt) : Rise (ordS l) ∧ ∀ x, x ∈ ordS l ↔ x ∈ l := by
  obtain ⟨⟨h1, h2⟩, _⟩ := compact_upto (l.mergeSort fun a b => decide (a ≤ b)).toArray (by simpa using sort_le l) (l.mergeSort fun a b => decide (a ≤ b)).length (by simp)
  refine ⟨h1, fun x => ?_⟩
  have h3 := h2 x
  simp only [List.take_length] at h3
  unfold ordS Go.Lib.compact
  rw [h3]
  exact List.mem_mergeSort
theorem ordS_rise {l : List Txt} (h : Rise l) : ordS l = l := rise_same (ordS_is l).1 h (ordS_is l).2
theorem ordS_nodup {l : List Txt} (h : l.Nodup) : (ordS l).length = l.length :=
  ((List.perm_ext_iff_of_nodup (rise_nodup (ordS_is l).1) h).2 (ordS_is l).2).length_eq
theorem ordS_len (l : List Txt) : (ordS l).length ≤ l.length :=
  List.Nodup.length_le_of_subset (rise_nodup (ordS_is l).1) (fun x hx => ((ordS_is l).2 x).1 hx)
theorem ordS_dup {l : List Txt} (h : ¬ l.Nodup) : (ordS l).length < l.length := by
  induction l with
  | nil => exact absurd List.nodup_nil h
  | cons a r ih =>
    rw [List.nodup_cons] at h
    by_cases ha : a ∈ r
    · have h1 : (ordS (a :: r)).length ≤ r.length := List.Nodup.length_le_of_subset (rise_nodup (ordS_is _).1) (fun x hx => by
        have h2 := ((ordS_is (a :: r)).2 x).1 hx
        simp only [List.mem_cons] at h2
        rcases h2 with h2 | h2
        · rw [h2]; exact ha
        · exact h2)
      simp only [List.length_cons]
      omega
    · have h1 := ih (fun h2 => h ⟨ha, h2⟩)
      have h2 : (ordS (a :: r)).length ≤ (a :: ordS r).length := List.Nodup.length_le_of_subset (rise_nodup (ordS_is _).1) (fun x hx => by
        have h2 := ((ordS_is (a :: r)).2 x).1 hx
        simp only [List.mem_cons] at h2 ⊢
        rcases h2 with h2 | h2
        · exact .inl h2
        · exact .inr (((ordS_is r).2 x).2 h2))
      simp only [List.length_cons] at h2 ⊢
      omega
end Go.Proofs.YtoggddoeanfjeaaGreatDoor
/- entry: texts in memory; isLong, isName, mayBe; walked. -/
namespace Go.Proofs.YtoggddoeanfjeaaGreatDoor
open Go.RowKit Go.Shelf
set_option linter.unusedVariables false
set_option linter.unusedSimpArgs false
set_option maxRecDepth 100000

/-- Texts in memory, one behind the other. -/
def StrsIn (w : World) (A : Option Addr) (n : Nat) (l : List Txt) : Prop :=
  l.length = n ∧ (∀ s ∈ l, s.length ≤ 9223372036854775807) ∧ (0 < n → ∃ b o, A = some ⟨b, o, none⟩ ∧ ∀ (i : Nat) (s : Txt), l[i]? = some s → w.cell? ⟨b, o + i, none⟩ = some (tv s))
theorem StrsIn.grow {w w' : World} {A : Option Addr} {n : Nat} {l : List Txt} (hk : Keeps [] w w') (h : StrsIn w A n l) : StrsIn w' A n l := by
  obtain ⟨h1, h2, h3⟩ := h
  refine ⟨h1, h2, fun hp => ?_⟩
  obtain ⟨b, o, e, hc⟩ := h3 hp
  exact ⟨b, o, e, fun i s hi => (hk.cell (lt_of_cell (hc i s hi)) (by simp)).trans (hc i s hi)⟩
theorem StrsIn.keep {w w' : World} {A : Option Addr} {n : Nat} {l : List Txt} {bs : List Nat} (hk : Keeps bs w w') (h : StrsIn w A n l) (hb : ∀ b o, A = some ⟨b, o, none⟩ → b ∉ bs) : StrsIn w' A n l := by
  obtain ⟨h1, h2, h3⟩ := h
  refine ⟨h1, h2, fun hp => ?_⟩
  obtain ⟨b, o, e, hc⟩ := h3 hp
  exact ⟨b, o, e, fun i s hi => (hk.cell (lt_of_cell (hc i s hi)) (hb b o e)).trans (hc i s hi)⟩
theorem StrsIn.nil (w : World) (A : Option Addr) : StrsIn w A 0 [] := ⟨rfl, by simp, fun h => by omega⟩
theorem StrsIn.of_own {w : World} {B n c : Nat} {A : Option Addr} {t : TypeId} {l : List Txt} (h : w.ownsRow B t 1 (.slice A n c) n (l.map tv)) (hn : l.length = n) (hl : ∀ s ∈ l, s.length ≤ 9223372036854775807) : StrsIn w A n l := by
  refine ⟨hn, hl, fun hp => ?_⟩
  rcases h.2 with ⟨_, h2⟩ | ⟨g, cap, cur, hA, hg, hh, r⟩
  · omega
  · injection hA with e1 e2 e3
    subst e1
    refine ⟨g, 0, rfl, fun i s hi => ?_⟩
    have c1 := h.cells (g := g) rfl i (tv s) (by rw [List.getElem?_map, hi]; rfl)
    rw [show (⟨g, 0, none⟩ : Addr).add i = ⟨g, 0 + i, none⟩ from by unfold Addr.add; split <;> simp_all] at c1
    exact c1

theorem one_rdn (w : World) (r : Part6) (t : TypeId) (h1 : r.1.length ≤ 9223372036854775807) (h2 : r.2.length ≤ 9223372036854775807) : DnIn (w.alloc (.cells #[tv r.1, tv r.2] t)) (some ⟨w.heap.size, 0, none⟩) 1 [r] := by
  refine ⟨rfl, fun p hp => ?_, fun _ => ⟨w.heap.size, 0, rfl, fun i p hi => ?_⟩⟩
  · simp at hp
    subst hp
    exact ⟨h1, h2⟩
  · cases i with
    | zero =>
      simp at hi
      subst hi
      exact two_facts6 (heap_new8 w _)
    | succ i => simp at hi

/-- More attributes, or Values of one, than may be. -/
def longN (n m : Nat) : Bool := decide (24 < n) || decide (16 < m)
theorem islong_is (n m : Nat) (w : World) : Calls Tryz.prog 79 #[.int .i64 (n : Int), .int .i64 (m : Int)] w fun e w' => e = .returned (.bool (longN n m)) ∧ w = w' := by
  obtain ⟨r, hr⟩ : ∃ r, longN n m = r := ⟨_, rfl⟩
  rw [hr]
  unfold longN at hr
  rcases Nat.lt_or_ge 24 n with h1 | h1
  · have hg : (24 : Int) < (n : Int) := by omega
    obtain rfl : r = true := by rw [← hr, show decide (24 < n) = true by simp; omega]; rfl
    clear hr h1
    go_enter Tryz.func79, Tryz.ntmps79
    go_wp2_with fail
    go_ret
    exact ⟨rfl, rfl⟩
  · have hg : ¬ (24 : Int) < (n : Int) := by omega
    have hr2 : decide ((16 : Int) < (m : Int)) = r := by
      rw [← hr, show decide (24 < n) = false by simp; omega, Bool.false_or]
      exact decide_eq_decide.2 (by omega)
    clear hr h1
    go_enter Tryz.func79, Tryz.ntmps79
    go_wp2_with fail
    go_ret
    exact ⟨by rw [← hr2]; first | rfl | simp, rfl⟩

theorem name_low (s : Txt) : typeOk (smallL s) = nameT s := by
  have letr_low : ∀ c : UInt8, letr1 (small1 c) = letr1 c := fun c => by
    have h := small1_nat c
    unfold letr1
    rw [h, Bool.eq_iff_iff]
    split <;> simp <;> omega
  have nam_low : ∀ c : UInt8, nam1 (small1 c) = nam1 c := fun c => by
    have h := small1_nat c
    unfold nam1
    rw [letr_low, h, Bool.eq_iff_iff]
    unfold letr1
    split <;> simp <;> omega
  have h0 : nameT (smallL s) = nameT s := by
    have h1 : (smallL s).all nam1 = s.all nam1 := by
      unfold smallL
      rw [List.all_map]
      congr 1
      funext c
      exact nam_low c
    unfold nameT
    rw [h1, smallL_len]
    cases s with
    | nil => rfl
    | cons c r =>
      have h2 : (smallL (c :: r)).head? = some (small1 c) := rfl
      rw [h2]
      simp only [Option.map_some, Option.getD_some, List.head?_cons, letr_low]
  rw [type_name, h0, smallL_idem]
  simp

theorem isname_is (s : Txt) (w : World) (hs : s.length ≤ 9223372036854775807) : Calls Tryz.prog 144 #[.string ⟨s.toArray⟩] w fun e w' => e = .returned (.bool (nameT s)) ∧ Keeps [] w w' := by
  have HSM := Lib.hid (small_is s w hs)
  have hsl : (smallL s).length ≤ 9223372036854775807 := by rw [smallL_len]; exact hs
  have hok : nameOk [(smallL s, [97, 110, 121])] = nameT s := by
    unfold nameOk partOk
    simp only [List.all_cons, List.all_nil, Bool.and_true, name_low, List.length_cons, List.length_nil]
    cases nameT s <;> rfl
  obtain ⟨z, hz⟩ : ∃ z, smallL s = z := ⟨_, rfl⟩
  rw [hz] at HSM hsl hok
  obtain ⟨r, hr⟩ : ∃ r, nameT s = r := ⟨_, rfl⟩
  rw [hr] at hok ⊢
  have HCH := Lib.hid (fun X : World => check6_is (some ⟨X.heap.size, 0, none⟩) 1 1 [(z, [97, 110, 121])] _ (by decide) (one_rdn X (z, [97, 110, 121]) 192 hsl (by simp)))
  rw [hok] at HCH
  clear hz hr hok hs hsl
  go_enter Tryz.func144, Tryz.ntmps144
  go_wp2_with fail
  refine HSM.out.mono ?_
  rintro e w1 ⟨rfl, hk1⟩
  have HK1 := Lib.hid hk1
  clear hk1
  go_wp2_with fail
  refine (HCH.out w1).mono ?_
  rintro e w2 ⟨rfl, hk2⟩
  have HK2 : Hid (Keeps [] w w2) := (HK1.out.alloc _).trans' hk2
  clear hk2
  cases r
  · simp only [Bool.false_eq_true, if_false]
    go_wp2_with fail
    go_ret
    exact ⟨rfl, HK2.out⟩
  · simp only [if_true]
    go_wp2_with fail
    go_ret
    exact ⟨rfl, HK2.out⟩

/-- May a text be a Value? -/
def valOk (s : Txt) : Bool := decide (1 ≤ s.length) && decide (s.length ≤ 2048)
def maybeA (name : Txt) (vs : List Txt) : Bool := vs.all valOk && nameT name
theorem vals_take {vs : List Txt} {j : Nat} {s : Txt} (h : vs[j]? = some s) : (vs.take (j + 1)).all valOk = ((vs.take j).all valOk && valOk s) := by
  rw [List.take_add_one, h, List.all_append]
  simp
theorem vals_cut {vs : List Txt} {j : Nat} {s : Txt} (h : vs[j]? = some s) (h2 : valOk s = false) : vs.all valOk = false := by
  rw [List.all_eq_false]
  exact ⟨s, List.mem_of_getElem? h, by simp [h2]⟩

set_option maxHeartbeats 4000000 in
theorem maybe7_is (name : Txt) (A : Option Addr) (n c : Nat) (vs : List Txt) (w : World) (hs : name.length ≤ 9223372036854775807) (h : StrsIn w A n vs) (hn : n ≤ 9223372036854775807) :
    Calls Tryz.prog 112 #[.string ⟨name.toArray⟩, .slice A n c] w fun e w' => e = .returned (.bool (maybeA name vs)) ∧ Keeps [] w w' := by
  have HD := Lib.hid h
  have HNM := Lib.hid (isname_is name w hs)
  obtain ⟨nm, hnm⟩ : ∃ nm, nameT name = nm := ⟨_, rfl⟩
  have HR : Hid (maybeA name vs = (vs.all valOk && nm)) := by show _ = _; unfold maybeA; rw [hnm]
  rw [hnm] at HNM
  obtain ⟨V, hV⟩ : ∃ V : World, V = w := ⟨_, rfl⟩
  subst hV
  have HV : Hid (StrsIn V A n vs) := h
  clear h hs hnm
  go_enter Tryz.func112, Tryz.ntmps112
  go_wp2_with fail
  refine wp_scope_once 0 rfl ?_
  go_wp2_with fail
  go_loopw [9] (fun i wr => ∃ j : Nat, i = .int .i64 (j : Int) ∧ j ≤ n ∧ Hid ((vs.take j).all valOk = true) ∧ wr = V) (fun i _ => n - (intOf i).toNat)
  case atStart => exact ⟨0, rfl, Nat.zero_le _, rfl, rfl⟩
  case round =>
    obtain ⟨j, rfl, hj, HA, rfl⟩ := hrel
    by_cases hlt : j < n
    · obtain ⟨hl, hp, hc9⟩ := HV.out
      obtain ⟨b, o, hA9, hcc⟩ := hc9 (by omega)
      subst hA9
      obtain ⟨s, hu⟩ : ∃ s, vs[j]? = some s := ⟨_, List.getElem?_eq_getElem (by omega)⟩
      have c0 := hcc j s hu
      have hsl := hp s (List.mem_of_getElem? hu)
      have HT := Lib.hid (vals_take hu)
      have HC := Lib.hid (fun h => vals_cut hu h)
      unfold tv at c0
      obtain ⟨q, hq⟩ : ∃ q, valOk s = q := ⟨_, rfl⟩
      rw [hq] at HT HC
      unfold valOk at hq
      obtain ⟨m, hm⟩ : ∃ m, s.length = m := ⟨_, rfl⟩
      have hTL : (⟨s.toArray⟩ : ByteArray).size = m := hm
      rw [hm] at hq
      have hji : (j : Int) < (n : Int) := by omega
      clear hcc hu hp hl hc9 hsl hm
      rcases Nat.eq_zero_or_pos m with h0 | h0
      · obtain rfl : q = false := by rw [← hq, h0]; rfl
        have hg : (m : Int) < 1 := by omega
        clear hq h0
        go_wp2_with fail
        go_step3
        refine ⟨rfl, ?_⟩
        go_wp2
        rw [Exit.noGoto_ret]
        go_ret
        exact ⟨by rw [HR.out, HC.out (by first | exact trivial | rfl)]; rfl, Keeps.refl _ _⟩
      · have hg : ¬ (m : Int) < 1 := by omega
        rcases Nat.lt_or_ge 2048 m with h2 | h2
        · obtain rfl : q = false := by rw [← hq, show decide (m ≤ 2048) = false by simp; omega]; simp
          have hg2 : (2048 : Int) < (m : Int) := by omega
          clear hq h0 h2
          go_wp2_with fail
          go_step3
          refine ⟨rfl, ?_⟩
          go_wp2
          rw [Exit.noGoto_ret]
          go_ret
          exact ⟨by rw [HR.out, HC.out (by first | exact trivial | rfl)]; rfl, Keeps.refl _ _⟩
        · obtain rfl : q = true := by rw [← hq, show decide (m ≤ 2048) = true by simp; omega, show decide (1 ≤ m) = true by simp; omega]; rfl
          have hg2 : ¬ (2048 : Int) < (m : Int) := by omega
          clear hq h0 h2
          go_wp2_with fail
          go_roundw
          case rel => exact ⟨j + 1, by go_num, by omega, by show _ = _; rw [HT.out, HA.out]; rfl, trivial⟩
          case measure => simp [intOf]; omega
    · obtain rfl : j = n := by omega
      have h9 := HA.out
      rw [List.take_of_length_le (by rw [HV.out.1]; exact Nat.le_refl _)] at h9
      have H9 : Hid (maybeA name vs = nm) := by show _ = _; rw [HR.out, h9]; rfl
      clear h9
      go_wp2_with fail
      refine HNM.out.mono ?_
      rintro e w1 ⟨rfl, hk1⟩
      have HK1 := Lib.hid hk1
      clear hk1
      cases nm
      · go_wp2_with fail
        go_step3
        refine ⟨rfl, ?_⟩
        go_wp2
        rw [Exit.noGoto_ret]
        go_ret
        exact ⟨by rw [H9.out]; rfl, HK1.out⟩
      · go_wp2_with fail
        simp only [Exit.jump]
        go_ret
        exact ⟨by rw [H9.out]; rfl, HK1.out⟩
end Go.Proofs.YtoggddoeanfjeaaGreatDoor
/- entry: slices.Values, and what is gathered of it. -/
namespace Go.Proofs.YtoggddoeanfjeaaGreatDoor
open Go.RowKit Go.Shelf
set_option linter.unusedVariables false
set_option linter.unusedSimpArgs false
attribute [local go_sem] Oper.semAt_some

theorem values_is (A : Option Addr) (n c : Nat) (w : World) : Calls Tryz.prog 146 #[.slice A n c] w fun e w' => e = .returned (.func (.func 168) #[] #[.pointer (some ⟨w.heap.size, 0, none⟩)]) ∧ w.alloc (.cells #[.slice A n c] 53) = w' := by
  go_enter Tryz.func146, Tryz.ntmps146
  go_wp2_with fail
  go_ret
  exact ⟨rfl, rfl⟩

set_option maxRecDepth 100000 in
set_option maxHeartbeats 2000000 in
theorem viter_in (F : Fence) (n : Nat) (hf : F.fn 168) (hro : F.round = none) (hn : 1 ≤ n) (lp Bs n₀ len c : Nat) (A : Option Addr) (l : List Txt) (hm : len ≤ 9223372036854775807) (J Jx : List Txt → World → Prop)
    (hY : ∀ pre x W, J pre W → pre.length < l.length → YieldAt F (n - 1) Tryz.prog lp #[tv x] W fun e W' =>
      (e = .returned (.bool true) ∧ J (pre ++ [x]) W' ∧ Below n₀ W W') ∨ (e = .returned (.bool false) ∧ Jx (pre ++ [x]) W'))
    (W : World) (hBs : W.cell? ⟨Bs, 0, none⟩ = some (.slice A len c)) (hP : StrsIn W A len l) (hA : 0 < len → ∀ b o, A = some ⟨b, o, none⟩ → b < n₀) (h0 : J [] W) :
    CallsIn F n Tryz.prog 168 #[.func (.yield lp) #[] #[], .pointer (some ⟨Bs, 0, none⟩)] W fun e W' => (∃ v, e = .returned v) ∧
      ((∃ ys, ys = l ∧ J ys W') ∨ (∃ pre, True ∧ Jx pre W')) := by
  have HP := Lib.hid hP
  clear hP
  refine callsIn_of_wp Tryz.func168 rfl hf ?_ hro
  simp only [Tryz.ntmps168, List.size_toArray, List.length_cons, List.length_nil, Nat.reduceAdd, Nat.reduceSub, Array.replicate_succ, Array.replicate_zero, List.push_toArray, List.append_toArray, List.nil_append, List.cons_append]
  gi_wp2
  gi_loopw [4, 7] (fun v i wr => ∃ j : Nat, j ≤ len ∧ i = .int .i64 (j : Int) ∧ J (l.take j) wr ∧ Hid (Below n₀ W wr)) (fun _ i _ => len - (intOf i).toNat)
  case atStart => exact ⟨0, Nat.zero_le _, rfl, by simpa using h0, Below.refl _ _⟩
  case round =>
    obtain ⟨j, hj, rfl, hJ, HK⟩ := hrel
    by_cases hlt : j < len
    · obtain ⟨hl, hp, hc9⟩ := HP.out
      obtain ⟨b, o, hA9, hcc⟩ := hc9 (by omega)
      have hb := hA (by omega) b o hA9
      subst hA9
      obtain ⟨s, hu⟩ : ∃ s, l[j]? = some s := ⟨_, List.getElem?_eq_getElem (by omega)⟩
      have htk : l.take (j + 1) = l.take j ++ [s] := by rw [List.take_add_one, hu]; rfl
      have c1 := (HK.out.cell (p := ⟨b, o + j, none⟩) hb).trans (hcc j s hu)
      have hJl : (l.take j).length < l.length := by rw [List.length_take]; omega
      obtain ⟨fn, tmps, assign, body, hy, hR⟩ := hY (l.take j) s wr hJ hJl
      have HT := Lib.hid htk
      unfold tv at c1 hy
      have hji : (j : Int) < (len : Int) := by omega
      clear hcc hu hc9 hp hl hJl htk hb
      gi_wp2
      refine hR.mono ?_
      rintro e W3 (⟨rfl, hJ3, hk3⟩ | ⟨rfl, hJx3⟩)
      · have hJ4 : J (l.take (j + 1)) W3 := by rw [HT.out]; exact hJ3
        have HK3 := Lib.hid (HK.out.trans hk3)
        gi_wp2
        go_roundw
        case rel => exact ⟨j + 1, by omega, by simp, hJ4, HK3⟩
        case measure => simp [intOf]; omega
      · gi_wp2
        refine bodyPost_ret (results_none rfl _ _ _) rfl ?_
        exact ⟨⟨_, rfl⟩, .inr ⟨_, trivial, hJx3⟩⟩
    · obtain rfl : j = len := by omega
      have hJ4 : J l wr := by
        rw [List.take_of_length_le (by rw [HP.out.1]; exact Nat.le_refl _)] at hJ
        exact hJ
      gi_wp2
      go_end0
      exact ⟨⟨_, rfl⟩, .inl ⟨_, rfl, hJ4⟩⟩

theorem viter_stops (F : Fence) (n : Nat) (hf : F.fn 168) (hro : F.round = none) (hn : 1 ≤ n) (Bs n₀ len c : Nat) (A : Option Addr) (l : List Txt) (hm : len ≤ 9223372036854775807) (w : World) (hBs : Bs < w.heap.size) (hn₀ : n₀ ≤ w.heap.size)
    (hc : w.cell? ⟨Bs, 0, none⟩ = some (.slice A len c)) (hP : StrsIn w A len l) (hA : 0 < len → ∀ b o, A = some ⟨b, o, none⟩ → b < n₀) :
    SeqStopsK F n Tryz.prog 168 #[.pointer (some ⟨Bs, 0, none⟩)] (fun x : Txt => #[tv x]) (Below n₀) (fun ys => ys = l) (fun _ => True) l.length w := fun lp J Jx W hW _ _ hY h0 => by
  have hP2 : StrsIn W A len l := StrsIn.grow (Keeps.of_below hW) hP
  exact viter_in F n hf hro hn lp Bs n₀ len c A l hm J Jx hY W ((hW.cell (p := ⟨Bs, 0, none⟩) hBs).trans hc) hP2 hA h0
end Go.Proofs.YtoggddoeanfjeaaGreatDoor
