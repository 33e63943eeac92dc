/- Texts of one proof, laid together: U45. -/
import Derived.Test.YthgpjlmdllihmaaGreatM34
/- few: that acts are few. -/
namespace Go.Proofs.YthgpjlmdllihmaaGreat
open Go.RowKit Go.Shelf Go.Maps
set_option linter.unusedVariables false
set_option linter.unusedSimpArgs false
set_option maxRecDepth 100000

/-- few answers something; if yes, there are at most thirty. -/
def FewQ (len : Nat) (w : World) (e : Ending) (w' : World) : Prop := ∃ b, e = .returned (.bool b) ∧ (b = true → len ≤ 30) ∧ Keeps [] w w'

theorem few_is (A : Option Addr) (len c : Nat) (l : List Act4) (w : World) (hl : Acts4 w A len l) (hm : len ≤ 9223372036854775807) :
    Calls Tryz.prog 5 #[.slice A len c] w (FewQ len w) := by
  have hll := hl.len
  by_cases h30 : (30 : Int) < (len : Int)
  · go_enter Tryz.func5, Tryz.ntmps5
    go_wp2_with fail
    go_ret
    exact ⟨false, rfl, (fun h => by cases h), Keeps.refl _ _⟩
  · have HL := Lib.hid hl
    have hl30 : len ≤ 30 := by omega
    clear hl
    go_enter Tryz.func5, Tryz.ntmps5
    go_wp2_with fail
    go_loopw [3, 4] (fun s i wr => ∃ (j : Nat) (t : Int), s = .int .i64 t ∧ i = .int .i64 (j : Int) ∧ j ≤ len ∧ Hid (Keeps [] w wr)) (fun _ i _ => len - (intOf i).toNat)
    case atStart => exact ⟨0, 0, rfl, rfl, Nat.zero_le _, Keeps.refl _ _⟩
    case round =>
      obtain ⟨j, t, rfl, rfl, hj, HK⟩ := hrel
      by_cases hlt : j < len
      · have hx : l[j]? = some (l[j]'(by omega)) := List.getElem?_eq_getElem (by omega)
        obtain ⟨b, o, rfl, ho⟩ := HL.out.at_ j _ hx
        have HO := Lib.hid ho
        generalize l[j]'(by omega) = x at *
        have d2 := (ho.grow HK.out).c2
        have hxl := ho.in_.len
        clear ho hx
        by_cases h110 : (110 : Int) < (x.l.length : Int)
        · go_wp2_with fail
          go_ret
          exact ⟨false, rfl, (fun h => by cases h), HK.out⟩
        · go_wp2_with fail
          obtain ⟨wo, rfl⟩ : ∃ wo : World, wo = wr := ⟨_, rfl⟩
          go_loopw [3, 5] (fun s i wr => ∃ (j2 : Nat) (t : Int), s = .int .i64 t ∧ i = .int .i64 (j2 : Int) ∧ j2 ≤ x.l.length ∧ Hid (Keeps [] wo wr)) (fun _ i _ => x.l.length - (intOf i).toNat)
          case atStart => exact ⟨0, t, rfl, rfl, Nat.zero_le _, Keeps.refl _ _⟩
          case round =>
            obtain ⟨j2, t2, rfl, rfl, hj2, HK2⟩ := hrel
            have e2 := (HK2.out.cell (lt_of_cell d2) (by simp)).trans d2
            by_cases hlt2 : j2 < x.l.length
            · have hy : x.l[j2]? = some (x.l[j2]'(by omega)) := List.getElem?_eq_getElem (by omega)
              obtain ⟨b2, o2, hA2, hc⟩ := (HO.out.in_.chgs.grow (HK.out.trans' HK2.out)).at_ j2 _ hy
              generalize x.l[j2]'(by omega) = y at *
              have y0 := hc.c0
              have y1 := hc.c1
              have y2 := hc.c2
              have yk := hc.lk
              have yv := hc.lv
              rw [hA2] at e2
              clear hc hy
              by_cases hk3 : (300 : Int) < (y.k.length : Int)
              · go_wp2_with fail
                go_ret
                exact ⟨false, rfl, (fun h => by cases h), (HK.out.trans' HK2.out).alloc _⟩
              · by_cases hv9 : (9000 : Int) < (y.v.length : Int)
                · go_wp2_with fail
                  go_ret
                  exact ⟨false, rfl, (fun h => by cases h), (HK.out.trans' HK2.out).alloc _⟩
                · go_wp2_with fail
                  go_roundw
                  case rel => exact ⟨j2 + 1, _, rfl, by go_num, by omega, HK2.out.alloc _⟩
                  case measure => simp [intOf]; omega
            · go_wp2_with fail
              go_roundw
              case rel => exact ⟨j + 1, _, rfl, by go_num, by omega, HK.out.trans' HK2.out⟩
              case measure => simp [intOf]; omega
      · go_wp2_with fail
        go_ret
        exact ⟨_, rfl, fun _ => hl30, HK.out⟩

end Go.Proofs.YthgpjlmdllihmaaGreat
