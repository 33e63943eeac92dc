/- Texts of one proof, laid together: F46 F47. -/
import Derived.Test.YtoggddoeanfjeaaGreatDoorMB4
import Derived.BigQuiet
import Derived.Test.YtoggddoeanfjeaaGreatDoorMB1
/- filter: the law's entries; walked. -/
namespace Go.Proofs.YtoggddoeanfjeaaGreatDoor
open Go.RowKit Go.Shelf
set_option linter.unusedVariables false
set_option linter.unusedSimpArgs false
set_option maxRecDepth 100000

/-- What a light entry is. -/
def LightE8 (l : List At7) : Prop := l.length ≤ 30 ∧ ∀ a ∈ l, a.n ≤ 20 ∧ a.name.length ≤ 200 ∧ ∀ s ∈ a.vs, s.length ≤ 4000
theorem LightE8.few {l : List At7} (h : LightE8 l) (m : Nat) (hm : 30 ≤ m) : Few7 m l := ⟨by have := h.1; omega, fun a ha => by have := (h.2 a ha).1; omega⟩
def LigQ8 (l : List At7) (w : World) (e : Ending) (w' : World) : Prop := ∃ r : Bool, e = .returned (.bool r) ∧ (r = true → LightE8 l) ∧ w = w'
set_option maxHeartbeats 8000000 in
theorem entries8_is (A : Option Addr) (n c : Nat) (l : List At7) (w : World) (h : EntIn w A n l) :
    Calls Tryz.prog 11 #[.slice A n c] w (LigQ8 l w) := by
  have HV := Lib.hid h
  obtain ⟨V, hV⟩ : ∃ V : World, V = w := ⟨_, rfl⟩
  subst hV
  clear h
  by_cases hnm : n ≤ 30
  · have h1 : ¬ (30 : Int) < (n : Int) := by omega
    go_enter Tryz.func11, Tryz.ntmps11
    go_wp2_with fail
    go_loopw [3, 4] (fun t i wr => ∃ j k : Nat, t = .int .i64 (k : Int) ∧ i = .int .i64 (j : Int) ∧ j ≤ n ∧ k ≤ 80000 * j ∧ Hid (∀ a ∈ l.take j, a.n ≤ 20 ∧ a.name.length ≤ 200 ∧ ∀ s ∈ a.vs, s.length ≤ 4000) ∧ wr = V) (fun _ i _ => n - (intOf i).toNat)
    case atStart => exact ⟨0, 0, rfl, rfl, Nat.zero_le _, Nat.le_refl _, by simp [Hid], rfl⟩
    case round =>
      obtain ⟨j, k, rfl, rfl, hj, hk, HA, rfl⟩ := hrel
      by_cases hlt : j < n
      · obtain ⟨hl, hp, hc9⟩ := HV.out
        obtain ⟨b, o, hA9, hcc⟩ := hc9 (by omega)
        clear hc9
        subst hA9
        obtain ⟨a, hu⟩ : ∃ s, l[j]? = some s := ⟨_, List.getElem?_eq_getElem (by omega)⟩
        obtain ⟨c0, c1⟩ := hcc j a hu
        have HSI := Lib.hid (hp a (List.mem_of_getElem? hu)).2.2.2
        have HU := Lib.hid hu
        obtain ⟨nm, aA, an, ac, avs⟩ := a
        dsimp only at c0 c1 HSI
        unfold tv at c0
        have hji : (j : Int) < (n : Int) := by omega
        have hj0 : (0 : Int) ≤ (j : Int) := by omega
        obtain ⟨V2, hV2⟩ : ∃ V2 : World, V2 = wr := ⟨_, rfl⟩
        subst hV2
        clear hcc hu hp hl
        by_cases h2 : 200 < nm.length
        · have h2' : (200 : Int) < (nm.length : Int) := by omega
          go_wp2_with fail
          go_ret
          exact ⟨false, rfl, by simp, rfl⟩
        · have h2' : ¬ (200 : Int) < (nm.length : Int) := by omega
          by_cases h3 : 20 < an
          · have h3' : (20 : Int) < (an : Int) := by omega
            go_wp2_with fail
            go_ret
            exact ⟨false, rfl, by simp, rfl⟩
          · have h3' : ¬ (20 : Int) < (an : Int) := by omega
            go_wp2_with fail
            go_loopw [3, 5] (fun t i wr => ∃ i2 k2 : Nat, t = .int .i64 (k2 : Int) ∧ i = .int .i64 (i2 : Int) ∧ i2 ≤ an ∧ k2 ≤ 80000 * j + 4000 * i2 ∧ Hid (∀ s ∈ avs.take i2, s.length ≤ 4000) ∧ wr = V2) (fun _ i _ => an - (intOf i).toNat)
            case atStart => exact ⟨0, k, rfl, rfl, Nat.zero_le _, by omega, by simp [Hid], rfl⟩
            case round =>
              obtain ⟨i2, k2, rfl, rfl, hi2, hk2, HS2, rfl⟩ := hrel
              by_cases hlt2 : i2 < an
              · obtain ⟨hl9, hp9, hc9⟩ := HSI.out
                obtain ⟨b9, o9, hA9, hcc9⟩ := hc9 (by omega)
                clear hc9
                obtain ⟨s, hu9⟩ : ∃ s, avs[i2]? = some s := ⟨_, List.getElem?_eq_getElem (by omega)⟩
                have d0 := hcc9 i2 s hu9
                have HU9 := Lib.hid hu9
                unfold tv at d0
                subst hA9
                have hii : (i2 : Int) < (an : Int) := by omega
                have hi0 : (0 : Int) ≤ (i2 : Int) := by omega
                clear hcc9 hu9 hp9 hl9
                by_cases h4 : 4000 < s.length
                · have h4' : (4000 : Int) < (s.length : Int) := by omega
                  go_wp2_with fail
                  go_ret
                  exact ⟨false, rfl, by simp, rfl⟩
                · have h4' : ¬ (4000 : Int) < (s.length : Int) := by omega
                  have HN9 : Hid (∀ x ∈ avs.take (i2 + 1), x.length ≤ 4000) := fun x hx => by
                    rw [List.take_add_one, HU9.out, List.mem_append] at hx
                    rcases hx with h9 | h9
                    · exact HS2.out x h9
                    · simp at h9
                      rw [h9]
                      omega
                  have hs9 : s.length ≤ 4000 := by omega
                  have hk9 : k2 ≤ 3000000 := by omega
                  go_wp2_with fail
                  go_roundw
                  case rel => exact ⟨i2 + 1, k2 + s.length, by go_num, by go_num, by omega, by omega, HN9.out, trivial⟩
                  case measure => simp [intOf]; omega
              · obtain rfl : i2 = an := by omega
                have HN2 : Hid (∀ x ∈ l.take (j + 1), x.n ≤ 20 ∧ x.name.length ≤ 200 ∧ ∀ s ∈ x.vs, s.length ≤ 4000) := fun x hx => by
                  rw [List.take_add_one, HU.out, List.mem_append] at hx
                  rcases hx with h9 | h9
                  · exact HA.out x h9
                  · simp at h9
                    rw [h9]
                    have h7 := HS2.out
                    rw [List.take_of_length_le (by rw [HSI.out.1]; exact Nat.le_refl _)] at h7
                    exact ⟨by show i2 ≤ _; omega, by show nm.length ≤ _; omega, h7⟩
                go_wp2_with fail
                go_roundw
                case rel => exact ⟨j + 1, k2, by go_num, by go_num, by omega, by omega, HN2.out, trivial⟩
                case measure => simp [intOf]; omega
      · obtain rfl : j = n := by omega
        have h9 := HA.out
        rw [List.take_of_length_le (by rw [HV.out.1]; exact Nat.le_refl _)] at h9
        have H9 : Hid (LightE8 l) := ⟨by rw [HV.out.1]; exact hnm, h9⟩
        clear h9
        by_cases h6 : k ≤ 4000
        · have h6' : (k : Int) ≤ 4000 := by omega
          go_wp2_with fail
          go_ret
          exact ⟨true, rfl, fun _ => H9.out, rfl⟩
        · have h6' : ¬ (k : Int) ≤ 4000 := by omega
          go_wp2_with fail
          go_ret
          exact ⟨false, rfl, by simp, rfl⟩
  · have h1 : (30 : Int) < (n : Int) := by omega
    go_enter Tryz.func11, Tryz.ntmps11
    go_wp2_with fail
    go_ret
    exact ⟨false, rfl, by simp, rfl⟩
end Go.Proofs.YtoggddoeanfjeaaGreatDoor
/- filter: the law's great letters; walked. -/
namespace Go.Proofs.YtoggddoeanfjeaaGreatDoor
open Go.RowKit Go.Shelf
set_option linter.unusedVariables false
set_option linter.unusedSimpArgs false
set_option maxRecDepth 100000

/-- A byte in great letters. -/
def great1 (c : UInt8) : UInt8 := if 97 ≤ c.toNat ∧ c.toNat ≤ 122 then c - 32 else c
theorem great1_nat (c : UInt8) : (great1 c).toNat = if 97 ≤ c.toNat ∧ c.toNat ≤ 122 then c.toNat - 32 else c.toNat := by
  unfold great1
  split
  · rename_i h
    rw [UInt8.toNat_sub_of_le _ _ (by rw [UInt8.le_iff_toNat_le]; simp; omega)]
    rfl
  · rfl
def greatL (l : List UInt8) : List UInt8 := l.map great1
theorem greatL_len (l : List UInt8) : (greatL l).length = l.length := by simp [greatL]
theorem small_great1 (c : UInt8) : small1 (great1 c) = small1 c := by
  have h : ∀ n : Fin 256, small1 (great1 (UInt8.ofNat n.val)) = small1 (UInt8.ofNat n.val) := by decide +kernel
  have := h ⟨c.toNat, c.toNat_lt⟩
  simpa using this
theorem small_greatL (l : List UInt8) : smallL (greatL l) = smallL l := by
  unfold smallL greatL
  rw [List.map_map]
  exact List.map_congr_left (fun c _ => small_great1 c)
theorem great_get (xs : List UInt8) (j : Nat) (u : UInt8) (hu : xs[j]? = some u) : (greatL (xs.take j) ++ xs.drop j)[j]? = some u := by
  have hj : j < xs.length := (List.getElem?_eq_some_iff.1 hu).1
  rw [List.getElem?_append_right (by rw [greatL_len, List.length_take]; omega), greatL_len, List.length_take, Nat.min_eq_left (by omega), Nat.sub_self, List.getElem?_drop, Nat.add_zero]
  exact hu
theorem great_at (xs : List UInt8) (j : Nat) (u : UInt8) (hu : xs[j]? = some u) : (greatL (xs.take j) ++ xs.drop j).set j (great1 u) = greatL (xs.take (j + 1)) ++ xs.drop (j + 1) := by
  have hj : j < xs.length := (List.getElem?_eq_some_iff.1 hu).1
  have hl : (greatL (xs.take j)).length = j := by rw [greatL_len, List.length_take]; omega
  have hd : xs.drop j = u :: xs.drop (j + 1) := by
    rw [List.drop_eq_getElem_cons hj]
    rw [List.getElem?_eq_getElem hj] at hu
    injection hu with hu
    rw [hu]
  rw [List.set_append_right _ _ (by omega), hl, Nat.sub_self, hd, List.set_cons_zero, List.take_add_one, hu]
  simp [greatL]

theorem great8_is (xs : List UInt8) (w : World) (hx : xs.length ≤ 9223372036854775807) : Calls Tryz.prog 25 #[.string ⟨xs.toArray⟩] w fun e w' => e = .returned (.string ⟨(greatL xs).toArray⟩) ∧ Keeps [] w w' := by
  obtain ⟨C, O, hcv, hcap, hrow⟩ := conv_row xs hx
  have HCV := Lib.hid hcv
  obtain ⟨n, hn⟩ : ∃ n, xs.length = n := ⟨_, rfl⟩
  have hcv2 := hcv
  rw [hn] at hcv2
  have HROW : Hid (RowB (w.alloc (O w)).drew w.heap.size xs.length xs) := hrow w
  rw [hn] at HROW
  have HCAP := Lib.hid (hcap w)
  rw [hn] at HCAP
  have HN := Lib.hid hn
  have hn63 : n ≤ 9223372036854775807 := by omega
  clear hcv hrow hcap HCV hx hn
  go_enter Tryz.func25, Tryz.ntmps25
  go_wp2_with fail
  have HK1 : Hid (Keeps [] w (w.alloc (O w)).drew) := ((Keeps.refl [] w).alloc _).drew
  generalize (w.alloc (O w)).drew = W1 at *
  obtain ⟨c, hc⟩ : ∃ c, C w = c := ⟨_, rfl⟩
  rw [hc] at HCAP ⊢
  clear hc hcv2
  go_loopw [4] (fun i wr => ∃ j : Nat, i = .int .i64 (j : Int) ∧ j ≤ n ∧ Hid (RowB wr w.heap.size n (greatL (xs.take j) ++ xs.drop j)) ∧ Hid (Keeps [] w wr)) (fun i _ => n - (intOf i).toNat)
  case atStart => exact ⟨0, rfl, Nat.zero_le _, by simpa [greatL, Hid] using HROW, HK1.out⟩
  case round =>
    obtain ⟨j, rfl, hj, HR, HKR⟩ := hrel
    by_cases hlt : j < n
    · obtain ⟨u, hu⟩ : ∃ u, xs[j]? = some u := ⟨_, List.getElem?_eq_getElem (by have := HN.out; omega)⟩
      have hgt := great_get xs j u hu
      have hcu := HR.out.cell j u hgt
      have hfu := HR.out.free j hlt
      have hul : u.toNat < 256 := u.toNat_lt
      have HS := Lib.hid (great_at xs j u hu)
      have HSN := Lib.hid (great1_nat u)
      clear hu
      by_cases hup : 97 ≤ u.toNat ∧ u.toNat ≤ 122
      · obtain ⟨hup1, hup2⟩ := hup
        rw [if_pos ⟨hup1, hup2⟩] at HSN
        go_wp2_with fail
        have hnx := HR.out.set j hlt (great1 u)
        rw [HS.out, HSN.out, show ((u.toNat - 32 : Nat) : Int) = (u.toNat : Int) - 32 by omega] at hnx
        have hkx := HKR.out.setCell (p := ⟨w.heap.size, j, none⟩) (.inr (Nat.le_refl _)) (.int .u8 ((u.toNat : Int) - 32))
        go_roundw
        case rel => exact ⟨j + 1, by go_num, by omega, hnx, hkx⟩
        case measure => simp [intOf]; omega
      · have HNO : Hid (great1 u = u) := by
          apply UInt8.toNat_inj.1
          rw [HSN.out, if_neg hup]
        have hnx : Hid (RowB wr w.heap.size n (greatL (xs.take (j + 1)) ++ xs.drop (j + 1))) := by
          show RowB _ _ _ _
          rw [← HS.out, HNO.out, set_same hgt]
          exact HR.out
        clear HSN hgt
        rcases Nat.lt_or_ge u.toNat 97 with h1 | h1
        · go_wp2_with fail
          go_roundw
          case rel => exact ⟨j + 1, by go_num, by omega, hnx.out, HKR.out⟩
          case measure => simp [intOf]; omega
        · have h2 : 122 < u.toNat := by omega
          clear hup
          go_wp2_with fail
          go_roundw
          case rel => exact ⟨j + 1, by go_num, by omega, hnx.out, HKR.out⟩
          case measure => simp [intOf]; omega
    · obtain rfl : j = n := by omega
      have HE : Hid (greatL (xs.take j) ++ xs.drop j = greatL xs) := by
        show _ = _
        rw [List.take_of_length_le (by have := HN.out; omega), List.drop_of_length_le (by have := HN.out; omega), List.append_nil]
      rw [HE.out] at HR
      have hcb := conv_bytes (HR.out.bytes HCAP.out.1 HCAP.out.2)
      go_wp2_with fail
      go_ret
      exact ⟨rfl, HKR.out⟩

end Go.Proofs.YtoggddoeanfjeaaGreatDoor
