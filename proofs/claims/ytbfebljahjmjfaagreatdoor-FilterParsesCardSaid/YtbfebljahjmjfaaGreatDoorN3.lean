
/- dn: the document's Small; letters; walked. -/
import Derived.Test.YtbfebljahjmjfaaGreatDoorN2
namespace Go.Proofs.YtbfebljahjmjfaaGreatDoor
open Go.RowKit Go.Shelf
set_option linter.unusedVariables false
set_option linter.unusedSimpArgs false
set_option maxRecDepth 100000

theorem isletter_is (c : UInt8) (w : World) : Calls Tryz.prog 327 #[.int .u8 (c.toNat : Int)] w fun e w' => e = .returned (.bool (let1 c)) ∧ w = w' := by
  have hc : c.toNat < 256 := c.toNat_lt
  obtain ⟨r, hr⟩ : ∃ r, let1 c = r := ⟨_, rfl⟩
  rw [hr]
  unfold let1 at hr
  go_enter Tryz.func327, Tryz.ntmps327
  rcases Nat.lt_or_ge c.toNat 97 with h1 | h1
  · obtain rfl : r = false := by rw [← hr]; simp; omega
    clear hr
    go_wp2_with fail
    go_ret
    exact ⟨rfl, rfl⟩
  · rcases Nat.lt_or_ge 122 c.toNat with h2 | h2
    · obtain rfl : r = false := by rw [← hr]; simp; omega
      have h2b : decide ((c.toNat : Int) ≤ 122) = false := by simp; omega
      clear hr
      go_wp2_with fail
      go_ret
      exact ⟨by rw [← h2b]; rfl, rfl⟩
    · obtain rfl : r = true := by rw [← hr]; simp; omega
      have h2b : decide ((c.toNat : Int) ≤ 122) = true := by simp; omega
      clear hr
      go_wp2_with fail
      go_ret
      exact ⟨by rw [← h2b]; rfl, rfl⟩

theorem maystand6_is (c : UInt8) (w : World) : Calls Tryz.prog 329 #[.int .u8 (c.toNat : Int)] w fun e w' => e = .returned (.bool (typ1 c)) ∧ w = w' := by
  have hc : c.toNat < 256 := c.toNat_lt
  have HL := Lib.hid (fun X => isletter_is c X)
  obtain ⟨r, hr⟩ : ∃ r, typ1 c = r := ⟨_, rfl⟩
  rw [hr]
  unfold typ1 at hr
  obtain ⟨l, hl⟩ : ∃ l, let1 c = l := ⟨_, rfl⟩
  rw [hl] at HL hr
  clear hl
  go_enter Tryz.func329, Tryz.ntmps329
  go_wp2_with fail
  refine (HL.out _).mono ?_
  rintro e w1 ⟨rfl, rfl⟩
  cases l
  · rcases Nat.lt_or_ge c.toNat 48 with h1 | h1
    · by_cases h3 : c.toNat = 45
      · obtain rfl : r = true := by rw [← hr, h3]; rfl
        have h3i : (c.toNat : Int) = 45 := by omega
        clear hr h3
        go_wp2_with fail
        go_ret
        exact ⟨rfl, rfl⟩
      · obtain rfl : r = false := by rw [← hr]; simp [h3]; omega
        have h3i : ¬ (c.toNat : Int) = 45 := by omega
        have h3b : ((c.toNat : Int) == 45) = false := by simpa using h3i
        clear hr h3
        go_wp2_with fail
        go_ret
        exact ⟨rfl, rfl⟩
    · rcases Nat.lt_or_ge 57 c.toNat with h2 | h2
      · obtain rfl : r = false := by rw [← hr]; simp; omega
        have h3i : ¬ (c.toNat : Int) = 45 := by omega
        have h3b : ((c.toNat : Int) == 45) = false := by simpa using h3i
        have h2b : decide ((c.toNat : Int) ≤ 57) = false := by simp; omega
        clear hr
        go_wp2_with fail
        go_ret
        exact ⟨rfl, rfl⟩
      · obtain rfl : r = true := by rw [← hr]; simp; omega
        have h2b : decide ((c.toNat : Int) ≤ 57) = true := by simp; omega
        clear hr
        go_wp2_with fail
        go_ret
        exact ⟨by rw [← h2b]; rfl, rfl⟩
  · obtain rfl : r = true := by rw [← hr]; rfl
    clear hr
    go_wp2_with fail
    go_ret
    exact ⟨rfl, rfl⟩

theorem small_take (xs : List UInt8) (j : Nat) (u : UInt8) (hu : xs[j]? = some u) : smallL (xs.take (j + 1)) = smallL (xs.take j) ++ [small1 u] := by
  rw [List.take_add_one, hu]
  simp [smallL]
theorem one_text (w : World) (u : Int) (hu : 0 ≤ u ∧ u < 256) : (convert 37 9 (.slice (some ⟨w.heap.size, 0, none⟩) 1 1)).run Tryz.prog (w.alloc (.cells #[.int .u8 u] 5)) = .ok (.string ⟨#[UInt8.ofNat u.toNat]⟩) (w.alloc (.cells #[.int .u8 u] 5)) := by
  have h : BytesAt (w.alloc (.cells #[.int .u8 u] 5)) (.slice (some ⟨w.heap.size, 0, none⟩) 1 1) [UInt8.ofNat u.toNat] := by
    refine ⟨_, 1, rfl, Nat.le_refl _, by unfold maxLen; omega, fun _ => ⟨w.heap.size, 0, rfl, fun i x hx => ?_⟩⟩
    cases i with
    | zero =>
      simp at hx
      subst hx
      rw [World.cell?_alloc_new]
      show some (Value.int .u8 u) = some (.int .u8 ((UInt8.ofNat u.toNat).toNat : Int))
      rw [UInt8.toNat_ofNat', show ((u.toNat % 2 ^ 8 : Nat) : Int) = u by omega]
    | succ i => simp at hx
  exact conv_bytes h

theorem str_at (xs : List UInt8) (j : Nat) (u : UInt8) (hu : xs[j]? = some u) (W : World) : (Instr.index 9 (.string ⟨xs.toArray⟩) (.int .i64 (j : Int))).run Tryz.prog W = .ok (.int .u8 (u.toNat : Int)) W := by
  obtain ⟨hj, rfl⟩ := List.getElem?_eq_some_iff.1 hu
  rw [run_index_string W 9 ⟨xs.toArray⟩ .i64 (j : Int) Tryz.underlying9, dif_pos (by simp [ByteArray.size]; exact hj)]
  rfl

theorem cat_small (xs : List UInt8) (j : Nat) (x : UInt8) (h : xs.length ≤ 9223372036854775807) (hj : j < xs.length) (W : World) : (Op.stringOp .add ⟨(smallL (xs.take j)).toArray⟩ ⟨#[x]⟩).run Tryz.prog W = .ok (.string (⟨(smallL (xs.take j)).toArray⟩ ++ ⟨#[x]⟩)) W := by
  have h1 : (smallL (xs.take j)).length ≤ j := by rw [smallL_len, List.length_take]; omega
  generalize smallL (xs.take j) = ys at *
  refine run_string_add_sum W _ _ ?_
  have e1 : (⟨ys.toArray⟩ : ByteArray).size = ys.length := rfl
  have e2 : (⟨#[x]⟩ : ByteArray).size = 1 := rfl
  rw [e1, e2]
  omega

theorem rsmall_is (xs : List UInt8) (w : World) (hx : xs.length ≤ 9223372036854775807) : Calls Tryz.prog 34 #[.string ⟨xs.toArray⟩] w fun e w' => e = .returned (.string ⟨(smallL xs).toArray⟩) ∧ Keeps [] w w' := by
  have H63 := Lib.hid hx
  clear hx
  go_enter Tryz.func34, Tryz.ntmps34
  go_wp2_with fail
  go_loopw [3, 4] (fun o i wr => ∃ j : Nat, o = .string ⟨(smallL (xs.take j)).toArray⟩ ∧ i = .int .i64 (j : Int) ∧ j ≤ xs.length ∧ Hid (Keeps [] w wr)) (fun _ i _ => xs.length - (intOf i).toNat)
  case atStart => exact ⟨0, by simp [smallL], rfl, Nat.zero_le _, Keeps.refl _ _⟩
  case round =>
    obtain ⟨j, rfl, rfl, hj, HKR⟩ := hrel
    by_cases hlt : j < xs.length
    · obtain ⟨u, hu⟩ : ∃ u, xs[j]? = some u := ⟨_, List.getElem?_eq_getElem hlt⟩
      have hul : u.toNat < 256 := u.toNat_lt
      have HT := Lib.hid (small_take xs j u hu)
      have HSN := Lib.hid (small1_nat u)
      have hix := str_at xs j u hu
      have HX : Hid ((⟨(smallL (xs.take (j + 1))).toArray⟩ : ByteArray) = ⟨(smallL (xs.take j)).toArray⟩ ++ ⟨#[small1 u]⟩) := by
        show _ = _
        rw [HT.out]
        apply ByteArray.ext
        simp
      have HCS := Lib.hid (fun x W => cat_small xs j x H63.out hlt W)
      have hw : wrap64 ((j : Int) + 1) = (j : Int) + 1 := by have := H63.out; unfold wrap64; omega
      clear hu HT
      rcases Nat.lt_or_ge u.toNat 65 with h1 | h1
      · have HNO : small1 u = u := UInt8.toNat_inj.1 (by rw [HSN.out, if_neg (by omega)])
        have hcv := one_text wr (u.toNat : Int) (by omega)
        rw [show UInt8.ofNat ((u.toNat : Int).toNat) = u from by simp] at hcv
        rw [HNO] at HX
        have hcs := HCS.out u
        clear HNO HSN HCS
        go_wp2_with fail
        go_roundw
        case rel => exact ⟨j + 1, by rw [HX.out], by rw [hw]; rfl, by omega, HKR.out.alloc _⟩
        case measure => rw [hw]; simp [intOf]; omega
      · rcases Nat.lt_or_ge 90 u.toNat with h2 | h2
        · have HNO : small1 u = u := UInt8.toNat_inj.1 (by rw [HSN.out, if_neg (by omega)])
          have hcv := one_text wr (u.toNat : Int) (by omega)
          rw [show UInt8.ofNat ((u.toNat : Int).toNat) = u from by simp] at hcv
          rw [HNO] at HX
          have hd : decide ((u.toNat : Int) ≤ 90) = false := by simp; omega
          have hcs := HCS.out u
          clear HNO HSN HCS
          go_wp2_with fail
          go_roundw
          case rel => exact ⟨j + 1, by rw [HX.out], by rw [hw]; rfl, by omega, HKR.out.alloc _⟩
          case measure => rw [hw]; simp [intOf]; omega
        · have hcv := one_text wr ((u.toNat : Int) + 32) (by omega)
          rw [show UInt8.ofNat (((u.toNat : Int) + 32).toNat) = small1 u from UInt8.toNat_inj.1 (by rw [HSN.out, if_pos ⟨h1, h2⟩, UInt8.toNat_ofNat']; omega)] at hcv
          have hd : decide ((u.toNat : Int) ≤ 90) = true := by simp; omega
          have hcs := HCS.out (small1 u)
          clear HSN HCS
          go_wp2_with fail
          go_roundw
          case rel => exact ⟨j + 1, by rw [HX.out], by rw [hw]; rfl, by omega, HKR.out.alloc _⟩
          case measure => rw [hw]; simp [intOf]; omega
    · obtain rfl : j = xs.length := by omega
      rw [List.take_length] 
      go_wp2_with fail
      go_ret
      exact ⟨rfl, HKR.out⟩

end Go.Proofs.YtbfebljahjmjfaaGreatDoor
