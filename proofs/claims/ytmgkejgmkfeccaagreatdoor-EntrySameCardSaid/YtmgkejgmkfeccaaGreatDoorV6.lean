
/- entry: slices.Equal of texts; isOrdered; walked. -/
import Derived.Test.YtmgkejgmkfeccaaGreatDoorV5
namespace Go.Proofs.YtmgkejgmkfeccaaGreatDoor
open Go.RowKit Go.Shelf
set_option linter.unusedVariables false
set_option linter.unusedSimpArgs false
set_option maxRecDepth 100000

theorem tx_beq (s t : Txt) (r : Bool) (h : (s == t) = r) : ((⟨s.toArray⟩ : ByteArray) == ⟨t.toArray⟩) = r ∧ ((⟨s.toArray⟩ : ByteArray) != ⟨t.toArray⟩) = !r ∧ ((⟨s.toArray⟩ : ByteArray).toList == (⟨t.toArray⟩ : ByteArray).toList) = r := by
  have h1 : ((⟨s.toArray⟩ : ByteArray) == ⟨t.toArray⟩) = r := by
    rw [← h]
    show (s.toArray == t.toArray) = (s == t)
    simp
  refine ⟨h1, by show (!_) = !_; rw [h1], ?_⟩
  rw [← h, ByteArray.toList_eq, ByteArray.toList_eq]
theorem txs_take {a b : List Txt} {j : Nat} {p q : Txt} (hp : a[j]? = some p) (hq : b[j]? = some q) : ((a.take (j + 1)) == (b.take (j + 1))) = (((a.take j) == (b.take j)) && (p == q)) := by
  rw [List.take_add_one, List.take_add_one, hp, hq, Bool.eq_iff_iff]
  simp only [beq_iff_eq, Bool.and_eq_true, Option.toList_some]
  constructor
  · intro h
    have hl : (a.take j).length = (b.take j).length := by
      have h1 := (List.getElem?_eq_some_iff.1 hp).1
      have h2 := (List.getElem?_eq_some_iff.1 hq).1
      rw [List.length_take, List.length_take]
      omega
    obtain ⟨h1, h2⟩ := List.append_inj h hl
    exact ⟨h1, by simpa using h2⟩
  · rintro ⟨h1, rfl⟩
    rw [h1]
theorem txs_cut {a b : List Txt} {j : Nat} {p q : Txt} (hp : a[j]? = some p) (hq : b[j]? = some q) (h : (p == q) = false) : (a == b) = false := by
  rw [beq_eq_false_iff_ne] at h ⊢
  intro e
  subst e
  rw [hp] at hq
  injection hq with hq
  exact h hq

set_option maxHeartbeats 4000000 in
theorem equals_is (A B : Option Addr) (n m c c' : Nat) (a b : List Txt) (w : World) (ha : StrsIn w A n a) (hb : StrsIn w B m b) (hn : n ≤ 4611686018427387904) :
    Calls Tryz.prog 52 #[.slice A n c, .slice B m c'] w fun e w' => e = .returned (.bool (a == b)) ∧ Keeps [] w w' := by
  have HA := Lib.hid ha
  have HB := Lib.hid hb
  by_cases hnm : n = m
  · subst hnm
    clear ha hb
    go_enter Tryz.func52, Tryz.ntmps52
    go_wp2_with fail
    go_loopw [13] (fun i wr => ∃ j : Nat, i = .int .i64 (j : Int) ∧ j ≤ n ∧ Hid (((a.take j) == (b.take j)) = true) ∧ Hid (Keeps [] w wr)) (fun i _ => n - (intOf i).toNat)
    case atStart => exact ⟨0, rfl, Nat.zero_le _, by simp [Hid], Keeps.refl _ _⟩
    case round =>
      obtain ⟨j, rfl, hj, HZ, HKR⟩ := hrel
      by_cases hlt : j < n
      · obtain ⟨hl, hp, hc9⟩ := StrsIn.grow HKR.out HA.out
        obtain ⟨b1, o1, hA9, hcc⟩ := hc9 (by omega)
        obtain ⟨hl2, hp2, hc8⟩ := StrsIn.grow HKR.out HB.out
        obtain ⟨b2, o2, hB9, hcd⟩ := hc8 (by omega)
        clear hc9 hc8
        subst hA9 hB9
        obtain ⟨p, hu⟩ : ∃ p, a[j]? = some p := ⟨_, List.getElem?_eq_getElem (by omega)⟩
        obtain ⟨q, hu2⟩ : ∃ q, b[j]? = some q := ⟨_, List.getElem?_eq_getElem (by omega)⟩
        have c0 := hcc j p hu
        have c1 := hcd j q hu2
        have HT := Lib.hid (txs_take hu hu2)
        have HC := Lib.hid (fun h => txs_cut hu hu2 h)
        unfold tv at c0 c1
        obtain ⟨r, hr⟩ : ∃ r, (p == q) = r := ⟨_, rfl⟩
        rw [hr] at HT HC
        obtain ⟨hs1, hs2, hs3⟩ := tx_beq p q r hr
        generalize (⟨p.toArray⟩ : ByteArray) = P at *
        generalize (⟨q.toArray⟩ : ByteArray) = Q at *
        clear hcc hcd hu hu2 hr hp hp2 hl hl2
        have hjj : (j : Int) < (n : Int) := by omega
        have hji : 0 ≤ (j : Int) := by omega
        cases r
        · go_wp2_with fail
          go_quiet (fail)
          go_wp2_with fail
          go_ret
          exact ⟨by rw [HC.out (by first | exact trivial | rfl)]; rfl, HKR.out.drewN _⟩
        · go_wp2_with fail
          go_quiet (fail)
          go_wp2_with fail
          go_roundw
          case rel => exact ⟨j + 1, by go_num, by omega, by show _ = _; rw [HT.out, HZ.out]; rfl, HKR.out.drewN _⟩
          case measure => simp [intOf]; omega
      · obtain rfl : j = n := by omega
        have h9 := HZ.out
        rw [List.take_of_length_le (by rw [HA.out.1]; exact Nat.le_refl _), List.take_of_length_le (by rw [HB.out.1]; exact Nat.le_refl _)] at h9
        have H9 := Lib.hid h9
        clear h9
        go_wp2_with fail
        go_ret
        exact ⟨by rw [H9.out]; rfl, HKR.out⟩
  · have hf : (a == b) = false := by
      rw [beq_eq_false_iff_ne]
      intro e
      subst e
      exact hnm (ha.1.symm.trans hb.1)
    rw [hf]
    have hni : ¬ (n : Int) = (m : Int) := by omega
    have hnb : ((n : Int) == (m : Int)) = false := by simpa using hni
    have hnc : ((n : Int) != (m : Int)) = true := by simpa using hni
    clear ha hb
    go_enter Tryz.func52, Tryz.ntmps52
    go_wp2_with fail
    go_ret
    exact ⟨rfl, Keeps.refl _ _⟩

theorem isordered_is (A : Option Addr) (n c : Nat) (l : List Txt) (w : World) (h : StrsIn w A n l) (hn : n ≤ 1000000) :
    Calls Tryz.prog 40 #[.slice A n c] w fun e w' => e = .returned (.bool (l == ordS l)) ∧ Keeps [] w w' := by
  have HO := Lib.hid (ordered_is A n c l w h hn)
  have HS := Lib.hid h
  have HLL : Hid (∀ s ∈ ordS l, s.length ≤ 9223372036854775807) := fun s hs => h.2.1 s (((ordS_is l).2 s).1 hs)
  clear h
  go_enter Tryz.func40, Tryz.ntmps40
  go_wp2_with fail
  refine HO.out.mono ?_
  rintro e w1 ⟨A', c', rfl, h1, h2⟩
  have HE := Lib.hid (equals_is A A' n (ordS l).length c c' l (ordS l) w1 (StrsIn.grow h2 HS.out) (StrsIn.of_own h1 rfl HLL.out) (by omega))
  have H2 := Lib.hid h2
  clear h1 h2
  go_wp2_with fail
  refine HE.out.mono ?_
  rintro e w2 ⟨rfl, hk2⟩
  have H3 := Lib.hid (H2.out.trans' hk2)
  clear hk2
  go_wp2_with fail
  go_ret
  exact ⟨rfl, H3.out⟩
end Go.Proofs.YtmgkejgmkfeccaaGreatDoor
