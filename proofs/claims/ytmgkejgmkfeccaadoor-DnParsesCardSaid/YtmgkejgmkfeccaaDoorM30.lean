/- Texts of one proof, laid together: N61. -/
import Derived.Test.YtmgkejgmkfeccaaDoorM29
import Derived.BigQuiet
/- dn: the document's one (two digits); walked. -/
namespace Go.Proofs.YtmgkejgmkfeccaaDoor
open Go.RowKit Go.Shelf
set_option linter.unusedVariables false
set_option linter.unusedSimpArgs false
set_option maxRecDepth 100000

theorem rdigit_nat (q : Nat) (hq : q < 256) (w : World) : Calls Tryd.prog 73 #[.int .u8 (q : Int)] w fun e w' => e = .returned (.int .i64 (digZ q)) ∧ w = w' := by
  have h := rdigit_is (UInt8.ofNat q) w
  rw [u8_nat hq] at h
  exact h
set_option maxHeartbeats 4000000 in
theorem rone_short (T : List UInt8) (k : Nat) (y : UInt8) (w : World) (hu : T[k]? = some 92) (hl : T.length ≤ 1000000000) (hy : T[k + 1]? = some y) (h0 : mark6 y.toNat = 0) (hk2 : T.length ≤ k + 2) :
    Calls Tryd.prog 43 #[.string ⟨T.toArray⟩, .int .i64 (k : Int)] w fun e w' => OneQ T k e ∧ Keeps [] w w' := by
  have hk := (List.getElem?_eq_some_iff.1 hu).1
  have hix := fun W => str_at T k 92 hu W
  rw [show (((92 : UInt8).toNat : Nat) : Int) = 92 from rfl] at hix
  have hd := drop_at hu
  obtain ⟨z1, hz1⟩ : ∃ z1, (k : Int) + 1 = z1 := ⟨_, rfl⟩
  have hw1 : wrap64 z1 = z1 := by unfold wrap64; omega
  have hk1 := (List.getElem?_eq_some_iff.1 hy).1
  have hiy := fun W => str_at T (k + 1) y hy W
  rw [show ((k + 1 : Nat) : Int) = z1 by omega] at hiy
  have hd1 := drop_at hy
  have hyc := y.toNat_lt
  have hs : sign1 y.toNat = false := by
    cases h9 : sign1 y.toNat with
    | false => rfl
    | true => exact absurd h0 (sign_mark _ hyc h9)
  have hy32 : y.toNat ≠ 32 := fun e => by rw [e] at h0; exact absurd h0 (by decide)
  have hy35 : y.toNat ≠ 35 := fun e => by rw [e] at h0; exact absurd h0 (by decide)
  have hg1 : ¬ (T.length : Int) ≤ z1 := by omega
  have hg1b : decide ((T.length : Int) ≤ z1) = false := by simp; omega
  have HSG := Lib.hid (fun X => rsign_is y X)
  rw [hs] at HSG
  have HDG := Lib.hid (fun X => rdigit_is y X)
  obtain ⟨z2, hz2⟩ : ∃ z2, (k : Int) + 2 = z2 := ⟨_, rfl⟩
  have hw2 : wrap64 z2 = z2 := by unfold wrap64; omega
  have hg2 : (T.length : Int) ≤ z2 := by omega
  have hg2b : decide ((T.length : Int) ≤ z2) = true := by simp; omega
  have HH := Lib.hid (OneQ.no (T := T) (k := k) (by
    rw [hd, hd1, List.drop_of_length_le hk2]
    simp [oneD, behind_one h0]))
  obtain ⟨n, hn⟩ : ∃ n, y.toNat = n := ⟨_, rfl⟩
  rw [hn] at hiy HSG HDG hy32 hy35
  have hyb1 : ((n : Int) == 32) = false := by simp; omega
  have hyb2 : ((n : Int) == 35) = false := by simp; omega
  have hyn1 : ¬ (n : Int) = 32 := by omega
  have hyn2 : ¬ (n : Int) = 35 := by omega
  clear hn hu hd hy hd1 hs hk1 hk hl hk2 hyc h0 HDG
  go_enter Tryd.func43, Tryd.ntmps43
  go_wp2_with fail
  refine (HSG.out _).mono ?_
  rintro e w1 ⟨rfl, rfl⟩
  go_wp2_with fail
  refine bodyPost_ret (results_tmp3 rfl _ _ _) rfl ?_
  exact ⟨HH.out, Keeps.refl _ _⟩

set_option maxHeartbeats 4000000 in
theorem rone_hex (T : List UInt8) (k : Nat) (y : UInt8) (w : World) (hu : T[k]? = some 92) (hl : T.length ≤ 1000000000) (hy : T[k + 1]? = some y) (h0 : mark6 y.toNat = 0) (v : UInt8) (hv : T[k + 2]? = some v) :
    Calls Tryd.prog 43 #[.string ⟨T.toArray⟩, .int .i64 (k : Int)] w fun e w' => OneQ T k e ∧ Keeps [] w w' := by
  have hk := (List.getElem?_eq_some_iff.1 hu).1
  have hix := fun W => str_at T k 92 hu W
  rw [show (((92 : UInt8).toNat : Nat) : Int) = 92 from rfl] at hix
  have hd := drop_at hu
  obtain ⟨z1, hz1⟩ : ∃ z1, (k : Int) + 1 = z1 := ⟨_, rfl⟩
  have hw1 : wrap64 z1 = z1 := by unfold wrap64; omega
  have hk1 := (List.getElem?_eq_some_iff.1 hy).1
  have hiy := fun W => str_at T (k + 1) y hy W
  rw [show ((k + 1 : Nat) : Int) = z1 by omega] at hiy
  have hd1 := drop_at hy
  have hyc := y.toNat_lt
  have hs : sign1 y.toNat = false := by
    cases h9 : sign1 y.toNat with
    | false => rfl
    | true => exact absurd h0 (sign_mark _ hyc h9)
  have hy32 : y.toNat ≠ 32 := fun e => by rw [e] at h0; exact absurd h0 (by decide)
  have hy35 : y.toNat ≠ 35 := fun e => by rw [e] at h0; exact absurd h0 (by decide)
  have hg1 : ¬ (T.length : Int) ≤ z1 := by omega
  have hg1b : decide ((T.length : Int) ≤ z1) = false := by simp; omega
  have HSG := Lib.hid (fun X => rsign_is y X)
  rw [hs] at HSG
  have HDG := Lib.hid (fun X => rdigit_is y X)
  obtain ⟨z2, hz2⟩ : ∃ z2, (k : Int) + 2 = z2 := ⟨_, rfl⟩
  have hw2 : wrap64 z2 = z2 := by unfold wrap64; omega
  have hk2 := (List.getElem?_eq_some_iff.1 hv).1
  have hiv := fun W => str_at T (k + 2) v hv W
  rw [show ((k + 2 : Nat) : Int) = z2 by omega] at hiv
  have hg2 : ¬ (T.length : Int) ≤ z2 := by omega
  have hg2b : decide ((T.length : Int) ≤ z2) = false := by simp; omega
  have HDV := Lib.hid (fun X => rdigit_is v X)
  have HH : Hid (oneD (T.drop k) = ((dig1 y.toNat).bind fun a => (dig1 v.toNat).map fun b => 16 * a + b).map fun N => (UInt8.ofNat N, true, T.drop (k + 3))) := by
    show _ = _
    rw [hd, hd1, drop_at hv]
    simp only [oneD, if_true, behind_pair h0, Option.map_map, hexN_pair]
    rfl
  have HKL : Hid (k + 3 ≤ T.length) := by show _ ≤ _; omega
  obtain ⟨n, hn⟩ : ∃ n, y.toNat = n := ⟨_, rfl⟩
  rw [hn] at hiy HSG HDG hy32 hy35 HH
  have hyb1 : ((n : Int) == 32) = false := by simp; omega
  have hyb2 : ((n : Int) == 35) = false := by simp; omega
  have hyn1 : ¬ (n : Int) = 32 := by omega
  have hyn2 : ¬ (n : Int) = 35 := by omega
  obtain ⟨m, hm⟩ : ∃ m, v.toNat = m := ⟨_, rfl⟩
  rw [hm] at hiv HDV HH
  have hnc : n < 256 := by rw [← hn]; exact hyc
  have hmc : m < 256 := by rw [← hm]; exact v.toNat_lt
  have e6 : IntKind.i64.wrap z2 = z2 := IntWalk.i64_in _ (by omega)
  clear hn hm hu hd hy hd1 hs hk1 hk hl hk2 hyc h0 hv
  cases ha : dig1 n with
  | none =>
    have HR := Lib.hid (OneQ.no (T := T) (k := k) (by rw [HH.out, ha]; rfl))
    rw [digZ_none ha] at HDG
    clear ha HH
    go_enter Tryd.func43, Tryd.ntmps43
    go_wp2_with fail
    refine (HSG.out _).mono ?_
    rintro e w1 ⟨rfl, rfl⟩
    go_wp2_with fail
    refine (HDG.out _).mono ?_
    rintro e w2 ⟨rfl, rfl⟩
    go_wp2_with fail
    refine bodyPost_ret (results_tmp3 rfl _ _ _) rfl ?_
    exact ⟨HR.out, Keeps.refl _ _⟩
  | some a =>
    have hab := dig_bound ha
    rw [digZ_some ha] at HDG
    have hga : ¬ (a : Int) < 0 := by omega
    have hgab : decide ((a : Int) < 0) = false := by simp
    cases hb : dig1 m with
    | none =>
      have HR := Lib.hid (OneQ.no (T := T) (k := k) (by rw [HH.out, ha, hb]; rfl))
      rw [digZ_none hb] at HDV
      clear ha hb HH hab
      go_enter Tryd.func43, Tryd.ntmps43
      go_wp2_with fail
      refine (HSG.out _).mono ?_
      rintro e w1 ⟨rfl, rfl⟩
      go_wp2_with fail
      refine (HDG.out _).mono ?_
      rintro e w2 ⟨rfl, rfl⟩
      go_wp2_with fail
      refine (HDV.out _).mono ?_
      rintro e w3 ⟨rfl, rfl⟩
      go_wp2_with fail
      refine bodyPost_ret (results_tmp3 rfl _ _ _) rfl ?_
      exact ⟨HR.out, Keeps.refl _ _⟩
    | some b =>
      have hbb := dig_bound hb
      have hda := digZ_some ha
      have hdb := digZ_some hb
      have HDQ := Lib.hid (fun X q (hq : q < 256) => rdigit_nat q hq X)
      rw [digZ_some hb] at HDV
      have hgb : ¬ (b : Int) < 0 := by omega
      have hgbb : decide ((b : Int) < 0) = false := by simp
      obtain ⟨N, hN⟩ : ∃ N : Nat, 16 * a + b = N := ⟨_, rfl⟩
      obtain ⟨hN256, e4, hA, e2⟩ := w_hex hab hbb hN
      have HR := Lib.hid (OneQ.yes (T := T) (k := k) (x := UInt8.ofNat N) (t := true) (e := .returned (.tuple #[.int .u8 (N : Int), .int .i64 3, .bool true])) 3 (by rw [HH.out, ha, hb]; simp [hN]) (by omega) HKL.out (by rw [u8_nat hN256]; rfl))
      have e1 := w_nat (n := 16 * a) (w_lt hab)
      have e1' := w_nat2 (n := 16 * a) (w_lt hab)
      have e3 := w_nat (n := N) (w_lt2 hN256)
      have e3' := w_nat2 (n := N) (w_lt2 hN256)
      generalize ((16 * a : Nat) : Int) = A at *
      clear ha hb HH hab hbb hN hN256 HKL
      go_enter Tryd.func43, Tryd.ntmps43
      go_wp2_with fail
      refine (HSG.out _).mono ?_
      rintro e w1 ⟨rfl, rfl⟩
      go_wp2_with fail
      refine (HDG.out _).mono ?_
      rintro e w2 ⟨rfl, rfl⟩
      go_wp2_with fail
      refine (HDV.out _).mono ?_
      rintro e w3 ⟨rfl, rfl⟩
      go_wp2_with fail
      go_quiet (first | (go_at_call 73; refine Calls.quiet_of_same ((HDQ.out _ _ (by assumption)).mono fun e w1 hh => ⟨hh.1, hh.2.symm⟩)))
      go_wp2_with fail
      refine bodyPost_ret (results_tmp3 rfl _ _ _) rfl ?_
      have h9 := HR.out
      rw [← e4] at h9
      exact ⟨h9, (Keeps.refl [] _).drewN _⟩

theorem rone6_is (T : List UInt8) (k : Nat) (w : World) (hk : k < T.length) (hl : T.length ≤ 1000000000) :
    Calls Tryd.prog 43 #[.string ⟨T.toArray⟩, .int .i64 (k : Int)] w fun e w' => OneQ T k e ∧ Keeps [] w w' := by
  obtain ⟨u, hu⟩ : ∃ u, T[k]? = some u := ⟨_, List.getElem?_eq_getElem hk⟩
  by_cases h92 : u = 92
  · subst h92
    rcases Nat.lt_or_ge (k + 1) T.length with h1 | h1
    · obtain ⟨y, hy⟩ : ∃ y, T[k + 1]? = some y := ⟨_, List.getElem?_eq_getElem h1⟩
      by_cases h0 : mark6 y.toNat = 0
      · rcases Nat.lt_or_ge (k + 2) T.length with h2 | h2
        · obtain ⟨v, hv⟩ : ∃ v, T[k + 2]? = some v := ⟨_, List.getElem?_eq_getElem h2⟩
          exact rone_hex T k y w hu hl hy h0 v hv
        · exact rone_short T k y w hu hl hy h0 h2
      · exact rone_mark T k y w hu hl hy h0
    · exact rone_end T k w hu hl h1
  · exact rone_plain T k u w hu hl h92
end Go.Proofs.YtmgkejgmkfeccaaDoor
