/- Texts of one proof, laid together: N1 N2 N3. -/
import Derived.Test.YtoggddoeanfjeaaGreatDoorE4
/- dn: small letters, what may be: as words. -/
namespace Go.Proofs.YtoggddoeanfjeaaGreatDoor
open Go.RowKit Go.Shelf
set_option linter.unusedVariables false
set_option linter.unusedSimpArgs false

/-- A byte in small letters. -/
def small1 (c : UInt8) : UInt8 := if 65 ≤ c.toNat ∧ c.toNat ≤ 90 then UInt8.ofNat (c.toNat + 32) else c
def smallL (s : List UInt8) : List UInt8 := s.map small1
theorem small1_nat (c : UInt8) : (small1 c).toNat = if 65 ≤ c.toNat ∧ c.toNat ≤ 90 then c.toNat + 32 else c.toNat := by
  unfold small1
  split
  · rename_i h
    rw [UInt8.toNat_ofNat']
    omega
  · rfl
theorem small1_idem (c : UInt8) : small1 (small1 c) = small1 c := by
  apply UInt8.toNat_inj.1
  rw [small1_nat (small1 c)]
  have h := small1_nat c
  split at h <;> rw [h] <;> split <;> omega
theorem smallL_idem (s : List UInt8) : smallL (smallL s) = smallL s := by
  unfold smallL
  rw [List.map_map]
  apply List.map_congr_left
  intro c _
  exact small1_idem c
theorem smallL_len (s : List UInt8) : (smallL s).length = s.length := by simp [smallL]

/-- A small letter. -/
def let1 (c : UInt8) : Bool := decide (97 ≤ c.toNat) && decide (c.toNat ≤ 122)
/-- What may stand in a Type. -/
def typ1 (c : UInt8) : Bool := let1 c || (decide (48 ≤ c.toNat) && decide (c.toNat ≤ 57)) || decide (c.toNat = 45)
def typeOk (s : List UInt8) : Bool := decide (1 ≤ s.length) && (decide (s.length ≤ 64) && ((s.head?.map let1).getD false && s.all typ1))
/-- A part of a name: its Type, its Value. -/
abbrev Part6 := List UInt8 × List UInt8
def partOk (p : Part6) : Bool := typeOk p.1 && (decide (1 ≤ p.2.length) && decide (p.2.length ≤ 200))
def nameOk (d : List Part6) : Bool := decide (d.length ≤ 16) && d.all partOk

end Go.Proofs.YtoggddoeanfjeaaGreatDoor
/- dn: small letters, walked: the program's Small, the document's. -/
namespace Go.Proofs.YtoggddoeanfjeaaGreatDoor
open Go.RowKit Go.Shelf
set_option linter.unusedVariables false
set_option linter.unusedSimpArgs false
set_option maxRecDepth 100000

/-- A row of bytes that may be written, as a conversion of a text leaves it. -/
structure RowB (w : World) (g : Nat) (n : Nat) (ys : List UInt8) : Prop where
  row : ∃ (cs : Array Value) (z : Nat), w.heap[g]? = some (.cells cs 5 (z, z + 1)) ∧ n ≤ z ∧ cs.size = z ∧ ∀ (i : Nat) (u : UInt8), ys[i]? = some u → cs[i]? = some (bv u)
  len : ys.length = n
theorem RowB.cell {w : World} {g n : Nat} {ys : List UInt8} (h : RowB w g n ys) (i : Nat) (u : UInt8) (hu : ys[i]? = some u) : w.cell? ⟨g, i, none⟩ = some (.int .u8 (u.toNat : Int)) := by
  obtain ⟨cs, z, h1, _, _, h4⟩ := h.row
  simp only [World.cell?, h1]
  exact h4 i u hu
theorem RowB.free {w : World} {g n : Nat} {ys : List UInt8} (h : RowB w g n ys) (i : Nat) (hi : i < n) : w.frozen? ⟨g, i, none⟩ = false := by
  obtain ⟨cs, z, h1, h2, _, h4⟩ := h.row
  simp only [World.frozen?, h1]
  simp
  omega
theorem RowB.set {w : World} {g n : Nat} {ys : List UInt8} (h : RowB w g n ys) (i : Nat) (hi : i < n) (u : UInt8) : RowB (w.setCell ⟨g, i, none⟩ (.int .u8 (u.toNat : Int))) g n (ys.set i u) := by
  obtain ⟨⟨cs, z, h1, h2, h3, h4⟩, h5⟩ := h
  refine ⟨⟨cs.setIfInBounds i (.int .u8 (u.toNat : Int)), z, ?_, h2, by simpa using h3, fun j v hv => ?_⟩, by simpa using h5⟩
  · simp [World.setCell, Array.getElem?_modify, h1]
  · rw [List.getElem?_set] at hv
    rw [Array.getElem?_setIfInBounds]
    by_cases hij : i = j
    · subst hij
      rw [if_pos rfl, if_pos (by omega)] at hv
      injection hv with hv
      subst hv
      rw [if_pos rfl, if_pos (by omega)]
      rfl
    · rw [if_neg hij] at hv ⊢
      exact h4 j v hv
theorem RowB.bytes {w : World} {g n c : Nat} {ys : List UInt8} (h : RowB w g n ys) (hc : n ≤ c) (hm : c ≤ maxLen) : BytesAt w (.slice (some ⟨g, 0, none⟩) n c) ys := by
  refine ⟨_, c, by rw [h.len], by rw [h.len]; exact hc, hm, fun _ => ⟨g, 0, rfl, fun i u hu => ?_⟩⟩
  rw [Nat.zero_add]
  exact h.cell i u hu
theorem conv_row (k : List UInt8) (hk : k.length ≤ 9223372036854775807) : ∃ (C : World → Nat) (O : World → Obj), (∀ W, (convert 9 44 (.string ⟨k.toArray⟩)).run Tryz.prog W = .ok (.slice (some ⟨W.heap.size, 0, none⟩) k.length (C W)) (W.drew.alloc (O W))) ∧ (∀ W, k.length ≤ C W ∧ C W ≤ maxLen) ∧ ∀ (W : World), RowB (W.drew.alloc (O W)) W.heap.size k.length k := by
  refine ⟨fun W => grownCap W k.length 0 5, fun W => .cells (bytesRow ⟨k.toArray⟩ (grownCap W k.length 0 5)) 5 ((bytesRow ⟨k.toArray⟩ (grownCap W k.length 0 5)).size, (bytesRow ⟨k.toArray⟩ (grownCap W k.length 0 5)).size + 1), fun W => ?_, fun W => ⟨grownCap_ge W _ _ _, grownCap_le_maxLen W _ _ _ (by unfold maxLen; omega)⟩, fun W => ?_⟩
  · exact run_bytes_of_string W 9 44 5 ⟨k.toArray⟩ Tryz.underlying9 Tryz.underlying44 Tryz.underlying5
  · refine ⟨⟨_, _, heap_new8 W.drew _, ?_, rfl, fun i u hu => ?_⟩, rfl⟩
    · simp only [bytesRow, List.map_toArray]
      simp
    · have hi : i < k.length := (List.getElem?_eq_some_iff.1 hu).1
      simp only [bytesRow, List.map_toArray]
      rw [Array.getElem?_append_left (by simpa using hi)]
      simp [hu, bv]

theorem set_same {l : List UInt8} {j : Nat} {u : UInt8} (h : l[j]? = some u) : l.set j u = l := by
  apply List.ext_getElem?
  intro i
  rw [List.getElem?_set]
  by_cases hij : j = i
  · subst hij
    rw [if_pos rfl, if_pos (List.getElem?_eq_some_iff.1 h).1, h]
  · rw [if_neg hij]
theorem small_get (xs : List UInt8) (j : Nat) (u : UInt8) (hu : xs[j]? = some u) : (smallL (xs.take j) ++ xs.drop j)[j]? = some u := by
  have hj : j < xs.length := (List.getElem?_eq_some_iff.1 hu).1
  rw [List.getElem?_append_right (by rw [smallL_len, List.length_take]; omega), smallL_len, List.length_take, Nat.min_eq_left (by omega), Nat.sub_self, List.getElem?_drop, Nat.add_zero]
  exact hu
theorem small_at (xs : List UInt8) (j : Nat) (u : UInt8) (hu : xs[j]? = some u) : (smallL (xs.take j) ++ xs.drop j).set j (small1 u) = smallL (xs.take (j + 1)) ++ xs.drop (j + 1) := by
  have hj : j < xs.length := (List.getElem?_eq_some_iff.1 hu).1
  have hl : (smallL (xs.take j)).length = j := by rw [smallL_len, List.length_take]; omega
  have hd : xs.drop j = u :: xs.drop (j + 1) := by
    rw [List.drop_eq_getElem_cons hj]
    rw [List.getElem?_eq_getElem hj] at hu
    injection hu with hu
    rw [hu]
  rw [List.set_append_right _ _ (by omega), hl, Nat.sub_self, hd, List.set_cons_zero, List.take_add_one, hu]
  simp [smallL]

theorem small_is (xs : List UInt8) (w : World) (hx : xs.length ≤ 9223372036854775807) : Calls Tryz.prog 53 #[.string ⟨xs.toArray⟩] w fun e w' => e = .returned (.string ⟨(smallL xs).toArray⟩) ∧ Keeps [] w w' := by
  obtain ⟨C, O, hcv, hcap, hrow⟩ := conv_row xs hx
  have HCV := Lib.hid hcv
  obtain ⟨n, hn⟩ : ∃ n, xs.length = n := ⟨_, rfl⟩
  have hcv2 := hcv
  rw [hn] at hcv2
  have HROW : Hid (RowB (w.alloc (O w)).drew w.heap.size xs.length xs) := hrow w
  rw [hn] at HROW
  have HCAP := Lib.hid (hcap w)
  rw [hn] at HCAP
  have HN := Lib.hid hn
  have hn63 : n ≤ 9223372036854775807 := by omega
  clear hcv hrow hcap HCV hx hn
  go_enter Tryz.func53, Tryz.ntmps53
  go_wp2_with fail
  have HK1 : Hid (Keeps [] w (w.alloc (O w)).drew) := ((Keeps.refl [] w).alloc _).drew
  generalize (w.alloc (O w)).drew = W1 at *
  obtain ⟨c, hc⟩ : ∃ c, C w = c := ⟨_, rfl⟩
  rw [hc] at HCAP ⊢
  clear hc hcv2
  go_loopw [10] (fun i wr => ∃ j : Nat, i = .int .i64 (j : Int) ∧ j ≤ n ∧ Hid (RowB wr w.heap.size n (smallL (xs.take j) ++ xs.drop j)) ∧ Hid (Keeps [] w wr)) (fun i _ => n - (intOf i).toNat)
  case atStart => exact ⟨0, rfl, Nat.zero_le _, by simpa [smallL, Hid] using HROW, HK1.out⟩
  case round =>
    obtain ⟨j, rfl, hj, HR, HKR⟩ := hrel
    by_cases hlt : j < n
    · obtain ⟨u, hu⟩ : ∃ u, xs[j]? = some u := ⟨_, List.getElem?_eq_getElem (by have := HN.out; omega)⟩
      have hgt := small_get xs j u hu
      have hcu := HR.out.cell j u hgt
      have hfu := HR.out.free j hlt
      have hul : u.toNat < 256 := u.toNat_lt
      have HS := Lib.hid (small_at xs j u hu)
      have HSN := Lib.hid (small1_nat u)
      clear hu
      by_cases hup : 65 ≤ u.toNat ∧ u.toNat ≤ 90
      · obtain ⟨hup1, hup2⟩ := hup
        rw [if_pos ⟨hup1, hup2⟩] at HSN
        go_wp2_with fail
        have hnx := HR.out.set j hlt (small1 u)
        rw [HS.out, HSN.out, show ((u.toNat + 32 : Nat) : Int) = (u.toNat : Int) - 65 + 97 by omega] at hnx
        have hkx := HKR.out.setCell (p := ⟨w.heap.size, j, none⟩) (.inr (Nat.le_refl _)) (.int .u8 ((u.toNat : Int) - 65 + 97))
        go_roundw
        case rel => exact ⟨j + 1, by go_num, by omega, hnx, hkx⟩
        case measure => simp [intOf]; omega
      · have HNO : Hid (small1 u = u) := by
          apply UInt8.toNat_inj.1
          rw [HSN.out, if_neg hup]
        have hnx : Hid (RowB wr w.heap.size n (smallL (xs.take (j + 1)) ++ xs.drop (j + 1))) := by
          show RowB _ _ _ _
          rw [← HS.out, HNO.out, set_same hgt]
          exact HR.out
        clear HSN hgt
        rcases Nat.lt_or_ge u.toNat 65 with h1 | h1
        · go_wp2_with fail
          go_roundw
          case rel => exact ⟨j + 1, by go_num, by omega, hnx.out, HKR.out⟩
          case measure => simp [intOf]; omega
        · have h2 : 90 < u.toNat := by omega
          clear hup
          go_wp2_with fail
          go_roundw
          case rel => exact ⟨j + 1, by go_num, by omega, hnx.out, HKR.out⟩
          case measure => simp [intOf]; omega
    · obtain rfl : j = n := by omega
      have HE : Hid (smallL (xs.take j) ++ xs.drop j = smallL xs) := by
        show _ = _
        rw [List.take_of_length_le (by have := HN.out; omega), List.drop_of_length_le (by have := HN.out; omega), List.append_nil]
      rw [HE.out] at HR
      have hcb := conv_bytes (HR.out.bytes HCAP.out.1 HCAP.out.2)
      go_wp2_with fail
      go_ret
      exact ⟨rfl, HKR.out⟩

end Go.Proofs.YtoggddoeanfjeaaGreatDoor
/- dn: the document's Small; letters; walked. -/
namespace Go.Proofs.YtoggddoeanfjeaaGreatDoor
open Go.RowKit Go.Shelf
set_option linter.unusedVariables false
set_option linter.unusedSimpArgs false
set_option maxRecDepth 100000

theorem isletter_is (c : UInt8) (w : World) : Calls Tryz.prog 197 #[.int .u8 (c.toNat : Int)] w fun e w' => e = .returned (.bool (let1 c)) ∧ w = w' := by
  have hc : c.toNat < 256 := c.toNat_lt
  obtain ⟨r, hr⟩ : ∃ r, let1 c = r := ⟨_, rfl⟩
  rw [hr]
  unfold let1 at hr
  go_enter Tryz.func197, Tryz.ntmps197
  rcases Nat.lt_or_ge c.toNat 97 with h1 | h1
  · obtain rfl : r = false := by rw [← hr]; simp; omega
    clear hr
    go_wp2_with fail
    go_ret
    exact ⟨rfl, rfl⟩
  · rcases Nat.lt_or_ge 122 c.toNat with h2 | h2
    · obtain rfl : r = false := by rw [← hr]; simp; omega
      have h2b : decide ((c.toNat : Int) ≤ 122) = false := by simp; omega
      clear hr
      go_wp2_with fail
      go_ret
      exact ⟨by rw [← h2b]; rfl, rfl⟩
    · obtain rfl : r = true := by rw [← hr]; simp; omega
      have h2b : decide ((c.toNat : Int) ≤ 122) = true := by simp; omega
      clear hr
      go_wp2_with fail
      go_ret
      exact ⟨by rw [← h2b]; rfl, rfl⟩

theorem maystand6_is (c : UInt8) (w : World) : Calls Tryz.prog 199 #[.int .u8 (c.toNat : Int)] w fun e w' => e = .returned (.bool (typ1 c)) ∧ w = w' := by
  have hc : c.toNat < 256 := c.toNat_lt
  have HL := Lib.hid (fun X => isletter_is c X)
  obtain ⟨r, hr⟩ : ∃ r, typ1 c = r := ⟨_, rfl⟩
  rw [hr]
  unfold typ1 at hr
  obtain ⟨l, hl⟩ : ∃ l, let1 c = l := ⟨_, rfl⟩
  rw [hl] at HL hr
  clear hl
  go_enter Tryz.func199, Tryz.ntmps199
  go_wp2_with fail
  refine (HL.out _).mono ?_
  rintro e w1 ⟨rfl, rfl⟩
  cases l
  · rcases Nat.lt_or_ge c.toNat 48 with h1 | h1
    · by_cases h3 : c.toNat = 45
      · obtain rfl : r = true := by rw [← hr, h3]; rfl
        have h3i : (c.toNat : Int) = 45 := by omega
        clear hr h3
        go_wp2_with fail
        go_ret
        exact ⟨rfl, rfl⟩
      · obtain rfl : r = false := by rw [← hr]; simp [h3]; omega
        have h3i : ¬ (c.toNat : Int) = 45 := by omega
        have h3b : ((c.toNat : Int) == 45) = false := by simpa using h3i
        clear hr h3
        go_wp2_with fail
        go_ret
        exact ⟨rfl, rfl⟩
    · rcases Nat.lt_or_ge 57 c.toNat with h2 | h2
      · obtain rfl : r = false := by rw [← hr]; simp; omega
        have h3i : ¬ (c.toNat : Int) = 45 := by omega
        have h3b : ((c.toNat : Int) == 45) = false := by simpa using h3i
        have h2b : decide ((c.toNat : Int) ≤ 57) = false := by simp; omega
        clear hr
        go_wp2_with fail
        go_ret
        exact ⟨rfl, rfl⟩
      · obtain rfl : r = true := by rw [← hr]; simp; omega
        have h2b : decide ((c.toNat : Int) ≤ 57) = true := by simp; omega
        clear hr
        go_wp2_with fail
        go_ret
        exact ⟨by rw [← h2b]; rfl, rfl⟩
  · obtain rfl : r = true := by rw [← hr]; rfl
    clear hr
    go_wp2_with fail
    go_ret
    exact ⟨rfl, rfl⟩

theorem small_take (xs : List UInt8) (j : Nat) (u : UInt8) (hu : xs[j]? = some u) : smallL (xs.take (j + 1)) = smallL (xs.take j) ++ [small1 u] := by
  rw [List.take_add_one, hu]
  simp [smallL]
theorem one_text (w : World) (u : Int) (hu : 0 ≤ u ∧ u < 256) : (convert 44 9 (.slice (some ⟨w.heap.size, 0, none⟩) 1 1)).run Tryz.prog (w.alloc (.cells #[.int .u8 u] 5)) = .ok (.string ⟨#[UInt8.ofNat u.toNat]⟩) (w.alloc (.cells #[.int .u8 u] 5)) := by
  have h : BytesAt (w.alloc (.cells #[.int .u8 u] 5)) (.slice (some ⟨w.heap.size, 0, none⟩) 1 1) [UInt8.ofNat u.toNat] := by
    refine ⟨_, 1, rfl, Nat.le_refl _, by unfold maxLen; omega, fun _ => ⟨w.heap.size, 0, rfl, fun i x hx => ?_⟩⟩
    cases i with
    | zero =>
      simp at hx
      subst hx
      rw [World.cell?_alloc_new]
      show some (Value.int .u8 u) = some (.int .u8 ((UInt8.ofNat u.toNat).toNat : Int))
      rw [UInt8.toNat_ofNat', show ((u.toNat % 2 ^ 8 : Nat) : Int) = u by omega]
    | succ i => simp at hx
  exact conv_bytes h

theorem str_at (xs : List UInt8) (j : Nat) (u : UInt8) (hu : xs[j]? = some u) (W : World) : (Instr.index 9 (.string ⟨xs.toArray⟩) (.int .i64 (j : Int))).run Tryz.prog W = .ok (.int .u8 (u.toNat : Int)) W := by
  obtain ⟨hj, rfl⟩ := List.getElem?_eq_some_iff.1 hu
  rw [run_index_string W 9 ⟨xs.toArray⟩ .i64 (j : Int) Tryz.underlying9, dif_pos (by simp [ByteArray.size]; exact hj)]
  rfl

theorem cat_small (xs : List UInt8) (j : Nat) (x : UInt8) (h : xs.length ≤ 9223372036854775807) (hj : j < xs.length) (W : World) : (Op.stringOp .add ⟨(smallL (xs.take j)).toArray⟩ ⟨#[x]⟩).run Tryz.prog W = .ok (.string (⟨(smallL (xs.take j)).toArray⟩ ++ ⟨#[x]⟩)) W := by
  have h1 : (smallL (xs.take j)).length ≤ j := by rw [smallL_len, List.length_take]; omega
  generalize smallL (xs.take j) = ys at *
  refine run_string_add_sum W _ _ ?_
  have e1 : (⟨ys.toArray⟩ : ByteArray).size = ys.length := rfl
  have e2 : (⟨#[x]⟩ : ByteArray).size = 1 := rfl
  rw [e1, e2]
  omega

theorem rsmall_is (xs : List UInt8) (w : World) (hx : xs.length ≤ 9223372036854775807) : Calls Tryz.prog 37 #[.string ⟨xs.toArray⟩] w fun e w' => e = .returned (.string ⟨(smallL xs).toArray⟩) ∧ Keeps [] w w' := by
  have H63 := Lib.hid hx
  clear hx
  go_enter Tryz.func37, Tryz.ntmps37
  go_wp2_with fail
  go_loopw [3, 4] (fun o i wr => ∃ j : Nat, o = .string ⟨(smallL (xs.take j)).toArray⟩ ∧ i = .int .i64 (j : Int) ∧ j ≤ xs.length ∧ Hid (Keeps [] w wr)) (fun _ i _ => xs.length - (intOf i).toNat)
  case atStart => exact ⟨0, by simp [smallL], rfl, Nat.zero_le _, Keeps.refl _ _⟩
  case round =>
    obtain ⟨j, rfl, rfl, hj, HKR⟩ := hrel
    by_cases hlt : j < xs.length
    · obtain ⟨u, hu⟩ : ∃ u, xs[j]? = some u := ⟨_, List.getElem?_eq_getElem hlt⟩
      have hul : u.toNat < 256 := u.toNat_lt
      have HT := Lib.hid (small_take xs j u hu)
      have HSN := Lib.hid (small1_nat u)
      have hix := str_at xs j u hu
      have HX : Hid ((⟨(smallL (xs.take (j + 1))).toArray⟩ : ByteArray) = ⟨(smallL (xs.take j)).toArray⟩ ++ ⟨#[small1 u]⟩) := by
        show _ = _
        rw [HT.out]
        apply ByteArray.ext
        simp
      have HCS := Lib.hid (fun x W => cat_small xs j x H63.out hlt W)
      have hw : wrap64 ((j : Int) + 1) = (j : Int) + 1 := by have := H63.out; unfold wrap64; omega
      clear hu HT
      rcases Nat.lt_or_ge u.toNat 65 with h1 | h1
      · have HNO : small1 u = u := UInt8.toNat_inj.1 (by rw [HSN.out, if_neg (by omega)])
        have hcv := one_text wr (u.toNat : Int) (by omega)
        rw [show UInt8.ofNat ((u.toNat : Int).toNat) = u from by simp] at hcv
        rw [HNO] at HX
        have hcs := HCS.out u
        clear HNO HSN HCS
        go_wp2_with fail
        go_roundw
        case rel => exact ⟨j + 1, by rw [HX.out], by rw [hw]; rfl, by omega, HKR.out.alloc _⟩
        case measure => rw [hw]; simp [intOf]; omega
      · rcases Nat.lt_or_ge 90 u.toNat with h2 | h2
        · have HNO : small1 u = u := UInt8.toNat_inj.1 (by rw [HSN.out, if_neg (by omega)])
          have hcv := one_text wr (u.toNat : Int) (by omega)
          rw [show UInt8.ofNat ((u.toNat : Int).toNat) = u from by simp] at hcv
          rw [HNO] at HX
          have hd : decide ((u.toNat : Int) ≤ 90) = false := by simp; omega
          have hcs := HCS.out u
          clear HNO HSN HCS
          go_wp2_with fail
          go_roundw
          case rel => exact ⟨j + 1, by rw [HX.out], by rw [hw]; rfl, by omega, HKR.out.alloc _⟩
          case measure => rw [hw]; simp [intOf]; omega
        · have hcv := one_text wr ((u.toNat : Int) + 32) (by omega)
          rw [show UInt8.ofNat (((u.toNat : Int) + 32).toNat) = small1 u from UInt8.toNat_inj.1 (by rw [HSN.out, if_pos ⟨h1, h2⟩, UInt8.toNat_ofNat']; omega)] at hcv
          have hd : decide ((u.toNat : Int) ≤ 90) = true := by simp; omega
          have hcs := HCS.out (small1 u)
          clear HSN HCS
          go_wp2_with fail
          go_roundw
          case rel => exact ⟨j + 1, by rw [HX.out], by rw [hw]; rfl, by omega, HKR.out.alloc _⟩
          case measure => rw [hw]; simp [intOf]; omega
    · obtain rfl : j = xs.length := by omega
      rw [List.take_length] 
      go_wp2_with fail
      go_ret
      exact ⟨rfl, HKR.out⟩

end Go.Proofs.YtoggddoeanfjeaaGreatDoor
