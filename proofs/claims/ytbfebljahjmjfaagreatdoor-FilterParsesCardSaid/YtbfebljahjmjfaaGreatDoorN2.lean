
/- dn: small letters, walked: the program's Small, the document's. -/
import Derived.Test.YtbfebljahjmjfaaGreatDoorE4
import Derived.Test.YtbfebljahjmjfaaGreatDoorN1
namespace Go.Proofs.YtbfebljahjmjfaaGreatDoor
open Go.RowKit Go.Shelf
set_option linter.unusedVariables false
set_option linter.unusedSimpArgs false
set_option maxRecDepth 100000

/-- A row of bytes that may be written, as a conversion of a text leaves it. -/
structure RowB (w : World) (g : Nat) (n : Nat) (ys : List UInt8) : Prop where
  row : ∃ (cs : Array Value) (z : Nat), w.heap[g]? = some (.cells cs 5 (z, z + 1)) ∧ n ≤ z ∧ cs.size = z ∧ ∀ (i : Nat) (u : UInt8), ys[i]? = some u → cs[i]? = some (bv u)
  len : ys.length = n
theorem RowB.cell {w : World} {g n : Nat} {ys : List UInt8} (h : RowB w g n ys) (i : Nat) (u : UInt8) (hu : ys[i]? = some u) : w.cell? ⟨g, i, none⟩ = some (.int .u8 (u.toNat : Int)) := by
  obtain ⟨cs, z, h1, _, _, h4⟩ := h.row
  simp only [World.cell?, h1]
  exact h4 i u hu
theorem RowB.free {w : World} {g n : Nat} {ys : List UInt8} (h : RowB w g n ys) (i : Nat) (hi : i < n) : w.frozen? ⟨g, i, none⟩ = false := by
  obtain ⟨cs, z, h1, h2, _, h4⟩ := h.row
  simp only [World.frozen?, h1]
  simp
  omega
theorem RowB.set {w : World} {g n : Nat} {ys : List UInt8} (h : RowB w g n ys) (i : Nat) (hi : i < n) (u : UInt8) : RowB (w.setCell ⟨g, i, none⟩ (.int .u8 (u.toNat : Int))) g n (ys.set i u) := by
  obtain ⟨⟨cs, z, h1, h2, h3, h4⟩, h5⟩ := h
  refine ⟨⟨cs.setIfInBounds i (.int .u8 (u.toNat : Int)), z, ?_, h2, by simpa using h3, fun j v hv => ?_⟩, by simpa using h5⟩
  · simp [World.setCell, Array.getElem?_modify, h1]
  · rw [List.getElem?_set] at hv
    rw [Array.getElem?_setIfInBounds]
    by_cases hij : i = j
    · subst hij
      rw [if_pos rfl, if_pos (by omega)] at hv
      injection hv with hv
      subst hv
      rw [if_pos rfl, if_pos (by omega)]
      rfl
    · rw [if_neg hij] at hv ⊢
      exact h4 j v hv
theorem RowB.bytes {w : World} {g n c : Nat} {ys : List UInt8} (h : RowB w g n ys) (hc : n ≤ c) (hm : c ≤ maxLen) : BytesAt w (.slice (some ⟨g, 0, none⟩) n c) ys := by
  refine ⟨_, c, by rw [h.len], by rw [h.len]; exact hc, hm, fun _ => ⟨g, 0, rfl, fun i u hu => ?_⟩⟩
  rw [Nat.zero_add]
  exact h.cell i u hu
theorem conv_row (k : List UInt8) (hk : k.length ≤ 9223372036854775807) : ∃ (C : World → Nat) (O : World → Obj), (∀ W, (convert 9 37 (.string ⟨k.toArray⟩)).run Tryz.prog W = .ok (.slice (some ⟨W.heap.size, 0, none⟩) k.length (C W)) (W.drew.alloc (O W))) ∧ (∀ W, k.length ≤ C W ∧ C W ≤ maxLen) ∧ ∀ (W : World), RowB (W.drew.alloc (O W)) W.heap.size k.length k := by
  refine ⟨fun W => grownCap W k.length 0 5, fun W => .cells (bytesRow ⟨k.toArray⟩ (grownCap W k.length 0 5)) 5 ((bytesRow ⟨k.toArray⟩ (grownCap W k.length 0 5)).size, (bytesRow ⟨k.toArray⟩ (grownCap W k.length 0 5)).size + 1), fun W => ?_, fun W => ⟨grownCap_ge W _ _ _, grownCap_le_maxLen W _ _ _ (by unfold maxLen; omega)⟩, fun W => ?_⟩
  · exact run_bytes_of_string W 9 37 5 ⟨k.toArray⟩ Tryz.underlying9 Tryz.underlying37 Tryz.underlying5
  · refine ⟨⟨_, _, heap_new8 W.drew _, ?_, rfl, fun i u hu => ?_⟩, rfl⟩
    · simp only [bytesRow, List.map_toArray]
      simp
    · have hi : i < k.length := (List.getElem?_eq_some_iff.1 hu).1
      simp only [bytesRow, List.map_toArray]
      rw [Array.getElem?_append_left (by simpa using hi)]
      simp [hu, bv]

theorem set_same {l : List UInt8} {j : Nat} {u : UInt8} (h : l[j]? = some u) : l.set j u = l := by
  apply List.ext_getElem?
  intro i
  rw [List.getElem?_set]
  by_cases hij : j = i
  · subst hij
    rw [if_pos rfl, if_pos (List.getElem?_eq_some_iff.1 h).1, h]
  · rw [if_neg hij]
theorem small_get (xs : List UInt8) (j : Nat) (u : UInt8) (hu : xs[j]? = some u) : (smallL (xs.take j) ++ xs.drop j)[j]? = some u := by
  have hj : j < xs.length := (List.getElem?_eq_some_iff.1 hu).1
  rw [List.getElem?_append_right (by rw [smallL_len, List.length_take]; omega), smallL_len, List.length_take, Nat.min_eq_left (by omega), Nat.sub_self, List.getElem?_drop, Nat.add_zero]
  exact hu
theorem small_at (xs : List UInt8) (j : Nat) (u : UInt8) (hu : xs[j]? = some u) : (smallL (xs.take j) ++ xs.drop j).set j (small1 u) = smallL (xs.take (j + 1)) ++ xs.drop (j + 1) := by
  have hj : j < xs.length := (List.getElem?_eq_some_iff.1 hu).1
  have hl : (smallL (xs.take j)).length = j := by rw [smallL_len, List.length_take]; omega
  have hd : xs.drop j = u :: xs.drop (j + 1) := by
    rw [List.drop_eq_getElem_cons hj]
    rw [List.getElem?_eq_getElem hj] at hu
    injection hu with hu
    rw [hu]
  rw [List.set_append_right _ _ (by omega), hl, Nat.sub_self, hd, List.set_cons_zero, List.take_add_one, hu]
  simp [smallL]

theorem small_is (xs : List UInt8) (w : World) (hx : xs.length ≤ 9223372036854775807) : Calls Tryz.prog 79 #[.string ⟨xs.toArray⟩] w fun e w' => e = .returned (.string ⟨(smallL xs).toArray⟩) ∧ Keeps [] w w' := by
  obtain ⟨C, O, hcv, hcap, hrow⟩ := conv_row xs hx
  have HCV := Lib.hid hcv
  obtain ⟨n, hn⟩ : ∃ n, xs.length = n := ⟨_, rfl⟩
  have hcv2 := hcv
  rw [hn] at hcv2
  have HROW : Hid (RowB (w.alloc (O w)).drew w.heap.size xs.length xs) := hrow w
  rw [hn] at HROW
  have HCAP := Lib.hid (hcap w)
  rw [hn] at HCAP
  have HN := Lib.hid hn
  have hn63 : n ≤ 9223372036854775807 := by omega
  clear hcv hrow hcap HCV hx hn
  go_enter Tryz.func79, Tryz.ntmps79
  go_wp2_with fail
  have HK1 : Hid (Keeps [] w (w.alloc (O w)).drew) := ((Keeps.refl [] w).alloc _).drew
  generalize (w.alloc (O w)).drew = W1 at *
  obtain ⟨c, hc⟩ : ∃ c, C w = c := ⟨_, rfl⟩
  rw [hc] at HCAP ⊢
  clear hc hcv2
  go_loopw [10] (fun i wr => ∃ j : Nat, i = .int .i64 (j : Int) ∧ j ≤ n ∧ Hid (RowB wr w.heap.size n (smallL (xs.take j) ++ xs.drop j)) ∧ Hid (Keeps [] w wr)) (fun i _ => n - (intOf i).toNat)
  case atStart => exact ⟨0, rfl, Nat.zero_le _, by simpa [smallL, Hid] using HROW, HK1.out⟩
  case round =>
    obtain ⟨j, rfl, hj, HR, HKR⟩ := hrel
    by_cases hlt : j < n
    · obtain ⟨u, hu⟩ : ∃ u, xs[j]? = some u := ⟨_, List.getElem?_eq_getElem (by have := HN.out; omega)⟩
      have hgt := small_get xs j u hu
      have hcu := HR.out.cell j u hgt
      have hfu := HR.out.free j hlt
      have hul : u.toNat < 256 := u.toNat_lt
      have HS := Lib.hid (small_at xs j u hu)
      have HSN := Lib.hid (small1_nat u)
      clear hu
      by_cases hup : 65 ≤ u.toNat ∧ u.toNat ≤ 90
      · obtain ⟨hup1, hup2⟩ := hup
        rw [if_pos ⟨hup1, hup2⟩] at HSN
        go_wp2_with fail
        have hnx := HR.out.set j hlt (small1 u)
        rw [HS.out, HSN.out, show ((u.toNat + 32 : Nat) : Int) = (u.toNat : Int) - 65 + 97 by omega] at hnx
        have hkx := HKR.out.setCell (p := ⟨w.heap.size, j, none⟩) (.inr (Nat.le_refl _)) (.int .u8 ((u.toNat : Int) - 65 + 97))
        go_roundw
        case rel => exact ⟨j + 1, by go_num, by omega, hnx, hkx⟩
        case measure => simp [intOf]; omega
      · have HNO : Hid (small1 u = u) := by
          apply UInt8.toNat_inj.1
          rw [HSN.out, if_neg hup]
        have hnx : Hid (RowB wr w.heap.size n (smallL (xs.take (j + 1)) ++ xs.drop (j + 1))) := by
          show RowB _ _ _ _
          rw [← HS.out, HNO.out, set_same hgt]
          exact HR.out
        clear HSN hgt
        rcases Nat.lt_or_ge u.toNat 65 with h1 | h1
        · go_wp2_with fail
          go_roundw
          case rel => exact ⟨j + 1, by go_num, by omega, hnx.out, HKR.out⟩
          case measure => simp [intOf]; omega
        · have h2 : 90 < u.toNat := by omega
          clear hup
          go_wp2_with fail
          go_roundw
          case rel => exact ⟨j + 1, by go_num, by omega, hnx.out, HKR.out⟩
          case measure => simp [intOf]; omega
    · obtain rfl : j = n := by omega
      have HE : Hid (smallL (xs.take j) ++ xs.drop j = smallL xs) := by
        show _ = _
        rw [List.take_of_length_le (by have := HN.out; omega), List.drop_of_length_le (by have := HN.out; omega), List.append_nil]
      rw [HE.out] at HR
      have hcb := conv_bytes (HR.out.bytes HCAP.out.1 HCAP.out.2)
      go_wp2_with fail
      go_ret
      exact ⟨rfl, HKR.out⟩

end Go.Proofs.YtbfebljahjmjfaaGreatDoor
