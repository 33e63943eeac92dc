/- Texts of one proof, laid together: N58 N59 N60. -/
import Derived.Test.YtmgkejgmkfeccaaDoorM28
import Derived.BigQuiet
/- dn: the document's one, as words. -/
namespace Go.Proofs.YtmgkejgmkfeccaaDoor
open Go.RowKit Go.Shelf
set_option linter.unusedVariables false
set_option linter.unusedSimpArgs false
set_option maxRecDepth 100000

/-- What the document's one answers. -/
def OneQ (T : List UInt8) (k : Nat) (e : Ending) : Prop :=
  (∀ x t r, oneD (T.drop k) = some (x, t, r) → ∃ n : Nat, e = .returned (.tuple #[.int .u8 (x.toNat : Int), .int .i64 (n : Int), .bool t]) ∧ 0 < n ∧ k + n ≤ T.length ∧ T.drop (k + n) = r) ∧
  (oneD (T.drop k) = none → e = .returned (.tuple #[.int .u8 0, .int .i64 0, .bool false]))
theorem OneQ.no {T : List UInt8} {k : Nat} (h : oneD (T.drop k) = none) : OneQ T k (.returned (.tuple #[.int .u8 0, .int .i64 0, .bool false])) :=
  ⟨fun x t r h2 => (by rw [h] at h2; cases h2), fun _ => rfl⟩
theorem OneQ.yes {T : List UInt8} {k : Nat} {x : UInt8} {t : Bool} {e : Ending} (n : Nat) (h : oneD (T.drop k) = some (x, t, T.drop (k + n))) (h0 : 0 < n) (hn : k + n ≤ T.length) (he : e = .returned (.tuple #[.int .u8 (x.toNat : Int), .int .i64 (n : Int), .bool t])) : OneQ T k e :=
  ⟨fun x' t' r' h2 => by
    rw [h] at h2
    simp only [Option.some.injEq, Prod.mk.injEq] at h2
    obtain ⟨rfl, rfl, rfl⟩ := h2
    exact ⟨n, he, h0, hn, rfl⟩, fun h2 => (by rw [h] at h2; cases h2)⟩
theorem digZ_none {n : Nat} (h : dig1 n = none) : digZ n = -1 := by simp [digZ, h]
theorem digZ_some {n k : Nat} (h : dig1 n = some k) : digZ n = (k : Int) := by simp [digZ, h]
theorem sign_mark (n : Nat) (hn : n < 256) (h : sign1 n = true) : mark6 n ≠ 0 := by
  unfold sign1 at h
  simp only [decide_eq_true_eq] at h
  omega
theorem mark_not (n : Nat) (hn : n < 256) (h : sign1 n = false) (h1 : n ≠ 32) (h2 : n ≠ 35) : mark6 n = 0 := by
  have hm := mark_is ⟨n, hn⟩
  simp only at hm
  rw [hm, h]
  simp [h1, h2]

theorem w_nat {n : Nat} (h : n < 1000000) : wrap64 (n : Int) = (n : Int) := by unfold wrap64; omega
theorem w_nat2 {n : Nat} (h : n < 1000000) : IntKind.i64.wrap (n : Int) = (n : Int) := IntWalk.i64_in _ (by omega)
theorem w_hex {a b N : Nat} (ha : a ≤ 15) (hb : b ≤ 15) (hN : 16 * a + b = N) : N < 256 ∧ (N : Int) % 256 = (N : Int) ∧ 16 * (a : Int) = ((16 * a : Nat) : Int) ∧ ((16 * a : Nat) : Int) + (b : Int) = (N : Int) := by omega
theorem w_lt {a : Nat} (h : a ≤ 15) : 16 * a < 1000000 := by omega
theorem w_lt2 {n : Nat} (h : n < 256) : n < 1000000 := by omega
theorem u8_nat {n : Nat} (h : n < 256) : (UInt8.ofNat n).toNat = n := by rw [UInt8.toNat_ofNat', Nat.mod_eq_of_lt (by omega)]

end Go.Proofs.YtmgkejgmkfeccaaDoor
/- dn: the document's one (no backslash); walked. -/
namespace Go.Proofs.YtmgkejgmkfeccaaDoor
open Go.RowKit Go.Shelf
set_option linter.unusedVariables false
set_option linter.unusedSimpArgs false
set_option maxRecDepth 100000

set_option maxHeartbeats 4000000 in
theorem rone_plain (T : List UInt8) (k : Nat) (u : UInt8) (w : World) (hu : T[k]? = some u) (hl : T.length ≤ 1000000000) (h92 : u ≠ 92) :
    Calls Tryd.prog 43 #[.string ⟨T.toArray⟩, .int .i64 (k : Int)] w fun e w' => OneQ T k e ∧ Keeps [] w w' := by
  have hk := (List.getElem?_eq_some_iff.1 hu).1
  have hix := fun W => str_at T k u hu W
  have HSG := Lib.hid (fun X => rsign_is u X)
  have hun : u.toNat ≠ 92 := fun e => h92 (UInt8.toNat_inj.1 e)
  have hone : oneD (T.drop k) = if (plain1 u && !sign1 u.toNat) = true then some (u, false, T.drop (k + 1)) else none := by
    rw [drop_at hu]
    simp only [oneD, if_neg h92]
  unfold plain1 at hone
  have HYES : Hid (oneD (T.drop k) = some (u, false, T.drop (k + 1)) → OneQ T k (.returned (.tuple #[.int .u8 (u.toNat : Int), .int .i64 1, .bool false]))) := fun h => OneQ.yes 1 h (by omega) (by omega) rfl
  obtain ⟨n, hn⟩ : ∃ n, u.toNat = n := ⟨_, rfl⟩
  have hnc : n < 256 := by rw [← hn]; exact u.toNat_lt
  rw [hn] at hix HSG hun hone HYES
  clear hn hu hk hl h92
  have hub : ((n : Int) != 92) = true := by simp; omega
  have huz : ¬ (n : Int) = 92 := by omega
  cases hs : sign1 n with
  | true =>
    rw [hs] at HSG hone
    have HR := Lib.hid (OneQ.no (T := T) (k := k) (by rw [hone]; simp))
    clear hs hone HYES
    go_enter Tryd.func43, Tryd.ntmps43
    go_wp2_with fail
    refine (HSG.out _).mono ?_
    rintro e w1 ⟨rfl, rfl⟩
    go_wp2_with fail
    refine bodyPost_ret (results_tmp3 rfl _ _ _) rfl ?_
    exact ⟨HR.out, Keeps.refl _ _⟩
  | false =>
    rw [hs] at HSG hone
    clear hs
    rcases Nat.lt_or_ge n 32 with g1 | g1
    · have HR := Lib.hid (OneQ.no (T := T) (k := k) (by rw [hone, show decide (32 ≤ n) = false by simp; omega]; simp))
      have gb1 : decide ((n : Int) < 32) = true := by simp; omega
      clear hone HYES
      go_enter Tryd.func43, Tryd.ntmps43
      go_wp2_with fail
      refine (HSG.out _).mono ?_
      rintro e w1 ⟨rfl, rfl⟩
      go_wp2_with fail
      refine bodyPost_ret (results_tmp3 rfl _ _ _) rfl ?_
      exact ⟨HR.out, Keeps.refl _ _⟩
    · have gb1 : decide ((n : Int) < 32) = false := by simp; omega
      have gn1 : ¬ n < 32 := by omega
      rcases Nat.lt_or_ge 126 n with g2 | g2
      · have HR := Lib.hid (OneQ.no (T := T) (k := k) (by rw [hone, show decide (n ≤ 126) = false by simp; omega]; simp))
        have gb2 : decide ((126 : Int) < (n : Int)) = true := by simp; omega
        clear hone HYES
        go_enter Tryd.func43, Tryd.ntmps43
        go_wp2_with fail
        refine (HSG.out _).mono ?_
        rintro e w1 ⟨rfl, rfl⟩
        go_wp2_with fail
        refine bodyPost_ret (results_tmp3 rfl _ _ _) rfl ?_
        exact ⟨HR.out, Keeps.refl _ _⟩
      · have HR := Lib.hid (HYES.out (by rw [hone, show decide (n ≤ 126) = true by simp; omega, show decide (32 ≤ n) = true by simp; omega]; rfl))
        have gb2 : decide ((126 : Int) < (n : Int)) = false := by simp; omega
        have gn2 : ¬ 126 < n := by omega
        clear hone HYES
        go_enter Tryd.func43, Tryd.ntmps43
        go_wp2_with fail
        refine (HSG.out _).mono ?_
        rintro e w1 ⟨rfl, rfl⟩
        go_wp2_with fail
        refine bodyPost_ret (results_tmp3 rfl _ _ _) rfl ?_
        exact ⟨HR.out, Keeps.refl _ _⟩

end Go.Proofs.YtmgkejgmkfeccaaDoor
/- dn: the document's one (a backslash at the end, or ahead of a sign); walked. -/
namespace Go.Proofs.YtmgkejgmkfeccaaDoor
open Go.RowKit Go.Shelf
set_option linter.unusedVariables false
set_option linter.unusedSimpArgs false
set_option maxRecDepth 100000

set_option maxHeartbeats 4000000 in
theorem rone_end (T : List UInt8) (k : Nat) (w : World) (hu : T[k]? = some 92) (hl : T.length ≤ 1000000000) (hk1 : T.length ≤ k + 1) :
    Calls Tryd.prog 43 #[.string ⟨T.toArray⟩, .int .i64 (k : Int)] w fun e w' => OneQ T k e ∧ Keeps [] w w' := by
  have hk := (List.getElem?_eq_some_iff.1 hu).1
  have hix := fun W => str_at T k 92 hu W
  rw [show (((92 : UInt8).toNat : Nat) : Int) = 92 from rfl] at hix
  have hd := drop_at hu
  obtain ⟨z1, hz1⟩ : ∃ z1, (k : Int) + 1 = z1 := ⟨_, rfl⟩
  have hw1 : wrap64 z1 = z1 := by unfold wrap64; omega
  have hg1 : (T.length : Int) ≤ z1 := by omega
  have hg1b : decide ((T.length : Int) ≤ z1) = true := by simp; omega
  have HR := Lib.hid (OneQ.no (T := T) (k := k) (by
    rw [hd, List.drop_of_length_le hk1]
    simp [oneD, behindL]))
  clear hu hd hk1 hk hl
  go_enter Tryd.func43, Tryd.ntmps43
  go_wp2_with fail
  refine bodyPost_ret (results_tmp3 rfl _ _ _) rfl ?_
  exact ⟨HR.out, Keeps.refl _ _⟩

set_option maxHeartbeats 4000000 in
theorem rone_mark (T : List UInt8) (k : Nat) (y : UInt8) (w : World) (hu : T[k]? = some 92) (hl : T.length ≤ 1000000000) (hy : T[k + 1]? = some y) (h0 : mark6 y.toNat ≠ 0) :
    Calls Tryd.prog 43 #[.string ⟨T.toArray⟩, .int .i64 (k : Int)] w fun e w' => OneQ T k e ∧ Keeps [] w w' := by
  have hk := (List.getElem?_eq_some_iff.1 hu).1
  have hix := fun W => str_at T k 92 hu W
  rw [show (((92 : UInt8).toNat : Nat) : Int) = 92 from rfl] at hix
  have hd := drop_at hu
  obtain ⟨z1, hz1⟩ : ∃ z1, (k : Int) + 1 = z1 := ⟨_, rfl⟩
  have hw1 : wrap64 z1 = z1 := by unfold wrap64; omega
  have hk1 := (List.getElem?_eq_some_iff.1 hy).1
  have hiy := fun W => str_at T (k + 1) y hy W
  rw [show ((k + 1 : Nat) : Int) = z1 by omega] at hiy
  have hg1 : ¬ (T.length : Int) ≤ z1 := by omega
  have hg1b : decide ((T.length : Int) ≤ z1) = false := by simp; omega
  have HSG := Lib.hid (fun X => rsign_is y X)
  have HR : Hid (OneQ T k (.returned (.tuple #[.int .u8 (y.toNat : Int), .int .i64 2, .bool true]))) :=
    OneQ.yes 2 (by rw [hd, drop_at hy]; simp [oneD, behind_mark _ h0]) (by omega) (by omega) rfl
  have hyc := y.toNat_lt
  obtain ⟨n, hn⟩ : ∃ n, y.toNat = n := ⟨_, rfl⟩
  rw [hn] at hiy HSG HR hyc h0
  clear hn hu hd hy hk1 hk hl
  cases hs : sign1 n with
  | true =>
    rw [hs] at HSG
    clear hs h0
    go_enter Tryd.func43, Tryd.ntmps43
    go_wp2_with fail
    refine (HSG.out _).mono ?_
    rintro e w1 ⟨rfl, rfl⟩
    go_wp2_with fail
    refine bodyPost_ret (results_tmp3 rfl _ _ _) rfl ?_
    exact ⟨HR.out, Keeps.refl _ _⟩
  | false =>
    have hc : n = 32 ∨ n = 35 := by
      by_cases h1 : n = 32
      · exact .inl h1
      · by_cases h2 : n = 35
        · exact .inr h2
        · exact absurd (mark_not n hyc hs h1 h2) h0
    rw [hs] at HSG
    clear hs h0 hyc
    rcases hc with rfl | rfl
    · rw [show ((32 : Nat) : Int) = 32 from rfl] at *
      go_enter Tryd.func43, Tryd.ntmps43
      go_wp2_with fail
      refine (HSG.out _).mono ?_
      rintro e w1 ⟨rfl, rfl⟩
      go_wp2_with fail
      refine bodyPost_ret (results_tmp3 rfl _ _ _) rfl ?_
      exact ⟨HR.out, Keeps.refl _ _⟩
    · rw [show ((35 : Nat) : Int) = 35 from rfl] at *
      go_enter Tryd.func43, Tryd.ntmps43
      go_wp2_with fail
      refine (HSG.out _).mono ?_
      rintro e w1 ⟨rfl, rfl⟩
      go_wp2_with fail
      refine bodyPost_ret (results_tmp3 rfl _ _ _) rfl ?_
      exact ⟨HR.out, Keeps.refl _ _⟩

end Go.Proofs.YtmgkejgmkfeccaaDoor
