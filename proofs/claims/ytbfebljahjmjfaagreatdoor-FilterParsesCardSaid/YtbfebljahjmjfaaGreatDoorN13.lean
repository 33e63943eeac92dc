
/- dn: the document's Name; walked. -/
import Derived.Test.YtbfebljahjmjfaaGreatDoorN12
import Derived.Test.YtbfebljahjmjfaaGreatDoorN6
namespace Go.Proofs.YtbfebljahjmjfaaGreatDoor
open Go.RowKit Go.Shelf
set_option linter.unusedVariables false
set_option linter.unusedSimpArgs false
set_option maxRecDepth 100000

/-- What may stand in a name, in whatever letters. -/
def nam1 (c : UInt8) : Bool := letr1 c || (decide (48 ≤ c.toNat) && decide (c.toNat ≤ 57)) || decide (c.toNat = 45)
def nameT (s : List UInt8) : Bool := decide (1 ≤ s.length) && (decide (s.length ≤ 64) && ((s.head?.map letr1).getD false && s.all nam1))

theorem rname_is (xs : List UInt8) (w : World) (hx : xs.length ≤ 9223372036854775807) : Calls Tryz.prog 140 #[.string ⟨xs.toArray⟩] w fun e w' => e = .returned (.bool (nameT xs)) ∧ w = w' := by
  obtain ⟨r, hr⟩ : ∃ r, nameT xs = r := ⟨_, rfl⟩
  rw [hr]
  unfold nameT at hr
  have HR := Lib.hid hr
  clear hr
  rcases Nat.eq_zero_or_pos xs.length with h0 | h0
  · have hxe : xs = [] := List.length_eq_zero_iff.1 h0
    subst hxe
    obtain rfl : r = false := by rw [← HR.out]; rfl
    clear hx h0
    go_enter Tryz.func140, Tryz.ntmps140
    go_wp2_with fail
    go_ret
    exact ⟨rfl, rfl⟩
  · obtain ⟨u, hu⟩ : ∃ u, xs[0]? = some u := ⟨_, List.getElem?_eq_getElem h0⟩
    have hix := str_at xs 0 u hu
    rw [show (((0 : Nat)) : Int) = 0 from rfl] at hix
    have hhd : (xs.head?.map letr1).getD false = letr1 u := by
      cases xs with
      | nil => simp at h0
      | cons y ys => simp at hu; subst hu; rfl
    have HHD := Lib.hid hhd
    have HLT := Lib.hid (rletter_is u w)
    have hg : ¬ (xs.length : Int) < 1 := by omega
    clear hhd hu
    rcases Nat.lt_or_ge 64 xs.length with h1 | h1
    · obtain rfl : r = false := by
        rw [← HR.out, show decide (xs.length ≤ 64) = false by simp; omega]; simp
      have hg2 : (64 : Int) < (xs.length : Int) := by omega
      clear h1 hx
      go_enter Tryz.func140, Tryz.ntmps140
      go_wp2_with fail
      go_ret
      exact ⟨rfl, rfl⟩
    · have hg3 : ¬ (64 : Int) < (xs.length : Int) := by omega
      have HV : Hid (r = (letr1 u && xs.all nam1)) := by
        show _ = _
        rw [← HR.out, HHD.out, show decide (xs.length ≤ 64) = true by simp; omega, show decide (1 ≤ xs.length) = true by simp; omega]
        simp
      obtain ⟨l, hl⟩ : ∃ l, letr1 u = l := ⟨_, rfl⟩
      rw [hl] at HLT HV
      have H64 := Lib.hid h1
      clear hl h0 h1 HR HHD hx
      go_enter Tryz.func140, Tryz.ntmps140
      go_wp2_with fail
      refine HLT.out.mono ?_
      rintro e w1 ⟨rfl, rfl⟩
      cases l
      · obtain rfl : r = false := by rw [HV.out]; rfl
        go_wp2_with fail
        go_ret
        exact ⟨rfl, rfl⟩
      · have HV2 : Hid (r = xs.all nam1) := by show _ = _; rw [HV.out]; rfl
        clear HV hix
        go_wp2_with fail
        obtain ⟨V, rfl⟩ : ∃ V : World, V = w := ⟨_, rfl⟩
        go_loopw [3] (fun i wr => ∃ j : Nat, i = .int .i64 (j : Int) ∧ j ≤ xs.length ∧ Hid ((xs.take j).all nam1 = true) ∧ wr = V) (fun i _ => xs.length - (intOf i).toNat)
        case atStart => exact ⟨0, rfl, Nat.zero_le _, rfl, rfl⟩
        case round =>
          obtain ⟨j, rfl, hj, HA, rfl⟩ := hrel
          by_cases hlt : j < xs.length
          · obtain ⟨y, hy⟩ : ∃ y, xs[j]? = some y := ⟨_, List.getElem?_eq_getElem hlt⟩
            have hiy := str_at xs j y hy
            have hyl : y.toNat < 256 := y.toNat_lt
            have HL := Lib.hid (rletter_is y wr)
            have HT := Lib.hid (all_take2 (p := nam1) hy)
            have HC := Lib.hid (fun h => all_cut2 (p := nam1) hy h)
            obtain ⟨q, hq⟩ : ∃ q, nam1 y = q := ⟨_, rfl⟩
            rw [hq] at HT HC
            unfold nam1 at hq
            obtain ⟨m, hm⟩ : ∃ m, letr1 y = m := ⟨_, rfl⟩
            rw [hm] at HL hq
            clear hy hm
            go_wp2_with fail
            refine HL.out.mono ?_
            rintro e w1 ⟨rfl, rfl⟩
            cases m
            · by_cases hdg : 48 ≤ y.toNat ∧ y.toNat ≤ 57
              · obtain ⟨d1, d2⟩ := hdg
                obtain rfl : q = true := by rw [← hq]; simp; omega
                have e1 : ¬ y.toNat < 48 := by omega
                have e2 : ¬ 57 < y.toNat := by omega
                clear hq
                go_wp2_with fail
                go_roundw
                case rel => exact ⟨j + 1, by go_num, by omega, by show _ = _; rw [HT.out, HA.out]; rfl, trivial⟩
                case measure => simp [intOf]; omega
              · by_cases h45 : y.toNat = 45
                · obtain rfl : q = true := by rw [← hq, h45]; rfl
                  have h45i : (y.toNat : Int) = 45 := by omega
                  have e1 : y.toNat < 48 := by omega
                  clear hq hdg h45
                  go_wp2_with fail
                  go_roundw
                  case rel => exact ⟨j + 1, by go_num, by omega, by show _ = _; rw [HT.out, HA.out]; rfl, trivial⟩
                  case measure => simp [intOf]; omega
                · obtain rfl : q = false := by rw [← hq]; simp [h45]; omega
                  have h45i : ¬ (y.toNat : Int) = 45 := by omega
                  have h45b : ((y.toNat : Int) == 45) = false := by simpa using h45i
                  clear hq h45
                  rcases Nat.lt_or_ge y.toNat 48 with e1 | e1
                  · clear hdg
                    go_wp2_with fail
                    go_ret
                    exact ⟨by rw [HV2.out, HC.out (by first | exact trivial | rfl)]; rfl, rfl⟩
                  · have e2 : 57 < y.toNat := by omega
                    have e1' : ¬ y.toNat < 48 := by omega
                    have e2b : decide ((57 : Int) < (y.toNat : Int)) = true := by simp; omega
                    clear hdg e1
                    go_wp2_with fail
                    go_ret
                    exact ⟨by rw [HV2.out, HC.out (by first | exact trivial | rfl)]; rfl, rfl⟩
            · obtain rfl : q = true := by rw [← hq]; rfl
              clear hq
              go_wp2_with fail
              go_roundw
              case rel => exact ⟨j + 1, by go_num, by omega, by show _ = _; rw [HT.out, HA.out]; rfl, trivial⟩
              case measure => simp [intOf]; omega
          · obtain rfl : j = xs.length := by omega
            have h9 := HA.out
            rw [List.take_length] at h9
            have H9 := Lib.hid (HV2.out.trans h9)
            clear h9
            go_wp2_with fail
            go_ret
            exact ⟨by rw [H9.out]; rfl, rfl⟩

end Go.Proofs.YtbfebljahjmjfaaGreatDoor
