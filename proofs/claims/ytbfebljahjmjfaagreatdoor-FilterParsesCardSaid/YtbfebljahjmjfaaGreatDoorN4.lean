
/- dn: what may be a Type; walked. -/
import Derived.Test.YtbfebljahjmjfaaGreatDoorN3
namespace Go.Proofs.YtbfebljahjmjfaaGreatDoor
open Go.RowKit Go.Shelf
set_option linter.unusedVariables false
set_option linter.unusedSimpArgs false
set_option maxRecDepth 100000

theorem all_take {xs : List UInt8} {p : UInt8 → Bool} {j : Nat} {u : UInt8} (hu : xs[j]? = some u) : (xs.take (j + 1)).all p = ((xs.take j).all p && p u) := by
  rw [List.take_add_one, hu]
  simp
theorem all_cut {xs : List UInt8} {p : UInt8 → Bool} {j : Nat} {u : UInt8} (hu : xs[j]? = some u) (h : p u = false) : xs.all p = false := by
  rw [← Bool.not_eq_true, List.all_eq_true]
  intro hx
  have := hx u (List.mem_of_getElem? hu)
  rw [h] at this
  cases this

theorem eachb_is (A : Option Addr) (n c : Nat) (xs : List UInt8) (w : World) (hl : xs.length = n) (hn : n ≤ 9223372036854775807) (hb : BytesAt w (.slice A n c) xs) :
    Calls Tryz.prog 328 #[.slice A n c, .func (.func 329) #[] #[]] w fun e w' => e = .returned (.bool (xs.all typ1)) ∧ w = w' := by
  have HB := Lib.hid hb
  have HL := Lib.hid hl
  clear hb hl
  go_enter Tryz.func328, Tryz.ntmps328
  go_wp2_with fail
  go_loopw [9] (fun i wr => ∃ j : Nat, i = .int .i64 (j : Int) ∧ j ≤ n ∧ Hid ((xs.take j).all typ1 = true) ∧ wr = w) (fun i _ => n - (intOf i).toNat)
  case atStart => exact ⟨0, rfl, Nat.zero_le _, rfl, rfl⟩
  case round =>
    obtain ⟨j, rfl, hj, HA, rfl⟩ := hrel
    by_cases hlt : j < n
    · obtain ⟨b, o, rfl, hc⟩ := bytes_addr HB.out (by omega)
      obtain ⟨u, hu⟩ : ∃ u, xs[j]? = some u := ⟨_, List.getElem?_eq_getElem (by have := HL.out; omega)⟩
      have hcu := hc j u hu
      have HM := Lib.hid (maystand6_is u wr)
      have HT := Lib.hid (all_take (p := typ1) hu)
      have HC := Lib.hid (fun h => all_cut (p := typ1) hu h)
      obtain ⟨r, hr⟩ : ∃ r, typ1 u = r := ⟨_, rfl⟩
      rw [hr] at HM HT HC
      clear hc hu hr
      go_wp2_with fail
      refine HM.out.mono ?_
      rintro e w1 ⟨rfl, rfl⟩
      cases r
      · go_wp2_with fail
        go_ret
        exact ⟨by rw [HC.out (by first | exact trivial | rfl)]; rfl, rfl⟩
      · go_wp2_with fail
        go_roundw
        case rel => exact ⟨j + 1, by go_num, by omega, by show _ = _; rw [HT.out, HA.out]; rfl, trivial⟩
        case measure => simp [intOf]; omega
    · obtain rfl : j = n := by omega
      have h9 := HA.out
      rw [List.take_of_length_le (by have := HL.out; omega)] at h9
      have H9 := Lib.hid h9
      clear h9
      go_wp2_with fail
      go_ret
      exact ⟨by rw [H9.out]; rfl, rfl⟩

theorem maytype_is (xs : List UInt8) (w : World) (hx : xs.length ≤ 9223372036854775807) : Calls Tryz.prog 306 #[.string ⟨xs.toArray⟩] w fun e w' => e = .returned (.bool (typeOk xs)) ∧ Keeps [] w w' := by
  obtain ⟨C, O, hcv, hcap, hrow⟩ := conv_row xs hx
  have HE := Lib.hid (eachb_is (some ⟨w.heap.size, 0, none⟩) xs.length (C w) xs (w.alloc (O w)).drew rfl hx ((hrow w).bytes (hcap w).1 (hcap w).2))
  obtain ⟨r, hr⟩ : ∃ r, typeOk xs = r := ⟨_, rfl⟩
  rw [hr]
  unfold typeOk at hr
  have HR := Lib.hid hr
  clear hr hrow hcap
  rcases Nat.eq_zero_or_pos xs.length with h0 | h0
  · have hxe : xs = [] := List.length_eq_zero_iff.1 h0
    subst hxe
    obtain rfl : r = false := by rw [← HR.out]; rfl
    clear HE hcv hx h0
    go_enter Tryz.func306, Tryz.ntmps306
    go_wp2_with fail
    go_ret
    exact ⟨rfl, Keeps.refl _ _⟩
  · obtain ⟨u, hu⟩ : ∃ u, xs[0]? = some u := ⟨_, List.getElem?_eq_getElem h0⟩
    have hix := str_at xs 0 u hu
    rw [show (((0 : Nat)) : Int) = 0 from rfl] at hix
    have hhd : (xs.head?.map let1).getD false = let1 u := by
      cases xs with
      | nil => simp at h0
      | cons y ys => simp at hu; subst hu; rfl
    have HHD := Lib.hid hhd
    have HLT := Lib.hid (isletter_is u w)
    have hg : decide ((1 : Int) ≤ (xs.length : Int)) = true := by simp; omega
    have hg1 : (1 : Int) ≤ (xs.length : Int) := by omega
    clear hhd hu
    rcases Nat.lt_or_ge 64 xs.length with h1 | h1
    · obtain rfl : r = false := by
        rw [← HR.out, show decide (xs.length ≤ 64) = false by simp; omega]; simp
      have hg2 : decide ((xs.length : Int) ≤ 64) = false := by simp; omega
      clear h1 HE hcv hx
      go_enter Tryz.func306, Tryz.ntmps306
      go_wp2_with fail
      go_ret
      exact ⟨rfl, Keeps.refl _ _⟩
    · have hg2 : decide ((xs.length : Int) ≤ 64) = true := by simp; omega
      have hg3 : (xs.length : Int) ≤ 64 := by omega
      have HV : Hid (r = (let1 u && xs.all typ1)) := by
        show _ = _
        rw [← HR.out, HHD.out, show decide (xs.length ≤ 64) = true by simp; omega, show decide (1 ≤ xs.length) = true by simp; omega]
        simp
      obtain ⟨l, hl⟩ : ∃ l, let1 u = l := ⟨_, rfl⟩
      obtain ⟨q, hq⟩ : ∃ q, xs.all typ1 = q := ⟨_, rfl⟩
      rw [hl] at HLT HV
      rw [hq] at HE HV
      clear hl hq h0 h1 HR HHD hx
      go_enter Tryz.func306, Tryz.ntmps306
      go_wp2_with fail
      refine HLT.out.mono ?_
      rintro e w1 ⟨rfl, rfl⟩
      cases l
      · obtain rfl : r = false := by rw [HV.out]; rfl
        go_wp2_with fail
        go_ret
        exact ⟨rfl, Keeps.refl _ _⟩
      · obtain rfl : r = q := by rw [HV.out]; rfl
        go_wp2_with fail
        refine HE.out.mono ?_
        rintro e w2 ⟨rfl, rfl⟩
        go_wp2_with fail
        go_ret
        exact ⟨rfl, ((Keeps.refl [] w).alloc _).drew⟩

end Go.Proofs.YtbfebljahjmjfaaGreatDoor
