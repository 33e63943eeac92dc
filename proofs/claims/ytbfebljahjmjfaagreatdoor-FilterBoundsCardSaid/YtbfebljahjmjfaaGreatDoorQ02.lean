import Derived.Lib.SlicesCompact
import Derived.Test.YtbfebljahjmjfaaGreatDoorQ01
/- entry: texts that rise, as words. -/
namespace Go.Proofs.YtbfebljahjmjfaaGreatDoor
open Go.RowKit Go.Shelf
set_option linter.unusedVariables false
set_option linter.unusedSimpArgs false

abbrev Txt := List UInt8
theorem tx_irr (a : Txt) : ¬ a < a := List.lt_irrefl a
theorem tx_tr {a b c : Txt} (h : a < b) (h2 : b < c) : a < c := List.lt_trans h h2
theorem tx_tot (a b : Txt) : a ≤ b ∨ b ≤ a := List.le_total a b
theorem tx_anti {a b : Txt} (h : a ≤ b) (h2 : b ≤ a) : a = b := List.le_antisymm h h2
theorem tx_letr {a b c : Txt} (h : a ≤ b) (h2 : b ≤ c) : a ≤ c := List.le_trans h h2
theorem tx_lt {a b : Txt} (h : a ≤ b) (h2 : a ≠ b) : a < b := by
 rcases Decidable.em (a < b) with h3 | h3
 ·exact h3
 ·exact absurd (tx_anti h (List.not_lt.1 h3)) h2
theorem tx_lelt {a b c : Txt} (h : a ≤ b) (h2 : b < c) : a < c := by
 rcases Decidable.em (a = b) with e | e
 ·rw [e]; exact h2
 ·exact tx_tr (tx_lt h e) h2

/-- Texts that rise, no two the same. -/
def Rise (l : List Txt) : Prop := l.Pairwise (· < ·)
theorem rise_same : ∀ {l m : List Txt}, Rise l → Rise m → (∀ x, x ∈ l ↔ x ∈ m) → l = m
 | [], [], _, _, _ => rfl
 | [], b :: m, _, _, h => absurd ((h b).2 (by simp)) (by simp)
 | a :: l, [], _, _, h => absurd ((h a).1 (by simp)) (by simp)
 | a :: l, b :: m, hl, hm, h => by
  have hl' := List.pairwise_cons.1 hl
  have hm' := List.pairwise_cons.1 hm
  have hab : a = b := by
   have h1 := (h a).1 (by simp)
   have h2 := (h b).2 (by simp)
   simp only [List.mem_cons] at h1 h2
   rcases h1 with h1 | h1
   ·exact h1
   ·rcases h2 with h2 | h2
    ·exact h2.symm
    ·exact absurd (tx_tr (hl'.1 b h2) (hm'.1 a h1)) (tx_irr a)
  subst hab
  rw [rise_same hl'.2 hm'.2 (fun x => ?_)]
  constructor
  ·intro hx
   have h1 := (h x).1 (List.mem_cons_of_mem _ hx)
   simp only [List.mem_cons] at h1
   rcases h1 with h1 | h1
   ·exact absurd (hl'.1 x hx) (by rw [h1]; exact tx_irr a)
   ·exact h1
  ·intro hx
   have h1 := (h x).2 (List.mem_cons_of_mem _ hx)
   simp only [List.mem_cons] at h1
   rcases h1 with h1 | h1
   ·exact absurd (hm'.1 x hx) (by rw [h1]; exact tx_irr a)
   ·exact h1
/-- Texts sorted, each once. -/
def ordS (l : List Txt) : List Txt := Go.Lib.compact (l.mergeSort fun a b => decide (a ≤ b))
theorem sort_le (l : List Txt) : (l.mergeSort fun a b => decide (a ≤ b)).Pairwise (· ≤ ·) := by
 have h := List.pairwise_mergeSort (le := fun a b : Txt => decide (a ≤ b)) (fun a b c h1 h2 => by simp only [decide_eq_true_eq] at *; exact tx_letr h1 h2) (fun a b => by simp only [Bool.or_eq_true, decide_eq_true_eq]; exact tx_tot a b) l
 exact h.imp fun {a b} hab => by simpa using hab
theorem compact_upto (d : Array Txt) (hd : d.toList.Pairwise (· ≤ ·)) : ∀ m, m ≤ d.size → (Rise (Go.Lib.compactUpTo d m) ∧ ∀ x, x ∈ Go.Lib.compactUpTo d m ↔ x ∈ d.toList.take m) ∧ ∀ (j : Nat), j + 1 = m → ∀ x ∈ Go.Lib.compactUpTo d m, x ≤ d[j]!
 | 0, _ => by
  refine ⟨⟨List.Pairwise.nil, fun x => by simp [Go.Lib.compactUpTo]⟩, fun j h => by omega⟩
 | m + 1, hm => by
  obtain ⟨⟨h1, h2⟩, h3⟩ := compact_upto d hd m (by omega)
  have hget : d[m]! = d.toList[m]'(by simp; omega) := by rw [getElem!_pos d m (by omega)]; simp
  have htk : d.toList.take (m + 1) = d.toList.take m ++ [d[m]!] := by rw [List.take_add_one, List.getElem?_eq_getElem (by simp; omega), hget]; rfl
  have hle : ∀ x ∈ d.toList.take m, x ≤ d[m]! := fun x hx => by
   obtain ⟨i, hi, rfl⟩ := List.mem_take_iff_getElem.1 hx
   rw [hget]
   exact List.pairwise_iff_getElem.1 hd i m (by omega) (by simp; omega) (by omega)
  rw [Go.Lib.compactUpTo_succ]
  cases hk : Go.Lib.keeps d m with
  | true =>
   simp only [if_true]
   refine ⟨⟨?_, fun x => by rw [htk, List.mem_append, List.mem_append, h2 x]⟩, fun j hj x hx => ?_⟩
   ·unfold Rise
    rw [List.pairwise_append]
    refine ⟨h1, by simp, fun x hx y hy => ?_⟩
    simp only [List.mem_singleton] at hy
    subst hy
    cases m with
    | zero => simp [Go.Lib.compactUpTo] at hx
    | succ j =>
     have hxj := h3 j rfl x hx
     have hne : d[j + 1]! ≠ d[j]! := by simpa [Go.Lib.keeps] using hk
     have hjm : d[j]! ≤ d[j + 1]! := hle _ (by
      rw [List.mem_take_iff_getElem]
      exact ⟨j, by simp; omega, by rw [getElem!_pos d j (by omega)]; simp⟩)
     exact tx_lelt hxj (tx_lt hjm (fun e => hne e.symm))
   ·obtain rfl : j = m := by omega
    rcases List.mem_append.1 hx with hx | hx
    ·exact hle x ((h2 x).1 hx)
    ·simp only [List.mem_singleton] at hx
     rw [hx]
     exact List.le_refl _
  | false =>
   simp only [Bool.false_eq_true, if_false, List.append_nil]
   have hkf : m ≠ 0 ∧ d[m]! = d[m - 1]! := by
    simp only [Go.Lib.keeps, decide_eq_false_iff_not, not_or, Decidable.not_not, ne_eq] at hk
    exact hk
   refine ⟨⟨h1, fun x => ?_⟩, fun j hj x hx => ?_⟩
   ·rw [htk, List.mem_append, h2 x]
    constructor
    ·exact .inl
    ·rintro (h | h)
     ·exact h
     ·simp only [List.mem_singleton] at h
      rw [h, hkf.2, List.mem_take_iff_getElem]
      exact ⟨m - 1, by simp; omega, by rw [getElem!_pos d (m - 1) (by omega)]; simp⟩
   ·obtain rfl : j = m := by omega
    exact hle x ((h2 x).1 hx)
theorem ordS_is (l : List Txt) : Rise (ordS l) ∧ ∀ x, x ∈ ordS l ↔ x ∈ l := by
 obtain ⟨⟨h1, h2⟩, _⟩ := compact_upto (l.mergeSort fun a b => decide (a ≤ b)).toArray (by simpa using sort_le l) (l.mergeSort fun a b => decide (a ≤ b)).length (by simp)
 refine ⟨h1, fun x => ?_⟩
 have h3 := h2 x
 simp only [List.take_length] at h3
 unfold ordS Go.Lib.compact
 rw [h3]
 exact List.mem_mergeSort
theorem ordS_rise {l : List Txt} (h : Rise l) : ordS l = l := rise_same (ordS_is l).1 h (ordS_is l).2
end Go.Proofs.YtbfebljahjmjfaaGreatDoor
/- dn: small letters, walked: the program's Small, the document's. -/
namespace Go.Proofs.YtbfebljahjmjfaaGreatDoor
open Go.RowKit Go.Shelf
set_option linter.unusedVariables false
set_option linter.unusedSimpArgs false
set_option maxRecDepth 100000

/-- A row of bytes that may be written, as a conversion of a text leaves it. -/
structure RowB (w : World) (g : Nat) (n : Nat) (ys : List UInt8) : Prop where
 row : ∃ (cs : Array Value) (z : Nat), w.heap[g]? = some (.cells cs 5 (z, z + 1)) ∧ n ≤ z ∧ cs.size = z ∧ ∀ (i : Nat) (u : UInt8), ys[i]? = some u → cs[i]? = some (bv u)
 len : ys.length = n
theorem RowB.cell {w : World} {g n : Nat} {ys : List UInt8} (h : RowB w g n ys) (i : Nat) (u : UInt8) (hu : ys[i]? = some u) : w.cell? ⟨g, i, none⟩ = some (.int .u8 (u.toNat : Int)) := by
 obtain ⟨cs, z, h1, _, _, h4⟩ := h.row
 simp only [World.cell?, h1]
 exact h4 i u hu
theorem RowB.free {w : World} {g n : Nat} {ys : List UInt8} (h : RowB w g n ys) (i : Nat) (hi : i < n) : w.frozen? ⟨g, i, none⟩ = false := by
 obtain ⟨cs, z, h1, h2, _, h4⟩ := h.row
 simp only [World.frozen?, h1]
 simp
 omega
theorem RowB.set {w : World} {g n : Nat} {ys : List UInt8} (h : RowB w g n ys) (i : Nat) (hi : i < n) (u : UInt8) : RowB (w.setCell ⟨g, i, none⟩ (.int .u8 (u.toNat : Int))) g n (ys.set i u) := by
 obtain ⟨⟨cs, z, h1, h2, h3, h4⟩, h5⟩ := h
 refine ⟨⟨cs.setIfInBounds i (.int .u8 (u.toNat : Int)), z, ?_, h2, by simpa using h3, fun j v hv => ?_⟩, by simpa using h5⟩
 ·simp [World.setCell, Array.getElem?_modify, h1]
 ·rw [List.getElem?_set] at hv
  rw [Array.getElem?_setIfInBounds]
  by_cases hij : i = j
  ·subst hij
   rw [if_pos rfl, if_pos (by omega)] at hv
   injection hv with hv
   subst hv
   rw [if_pos rfl, if_pos (by omega)]
   rfl
  ·rw [if_neg hij] at hv ⊢
   exact h4 j v hv
theorem RowB.bytes {w : World} {g n c : Nat} {ys : List UInt8} (h : RowB w g n ys) (hc : n ≤ c) (hm : c ≤ maxLen) : BytesAt w (.slice (some ⟨g, 0, none⟩) n c) ys := by
 refine ⟨_, c, by rw [h.len], by rw [h.len]; exact hc, hm, fun _ => ⟨g, 0, rfl, fun i u hu => ?_⟩⟩
 rw [Nat.zero_add]
 exact h.cell i u hu
theorem conv_row (k : List UInt8) (hk : k.length ≤ 9223372036854775807) : ∃ (C : World → Nat) (O : World → Obj), (∀ W, (convert 9 37 (.string ⟨k.toArray⟩)).run Tryz.prog W = .ok (.slice (some ⟨W.heap.size, 0, none⟩) k.length (C W)) (W.drew.alloc (O W))) ∧ (∀ W, k.length ≤ C W ∧ C W ≤ maxLen) ∧ ∀ (W : World), RowB (W.drew.alloc (O W)) W.heap.size k.length k := by
 refine ⟨fun W => grownCap W k.length 0 5, fun W => .cells (bytesRow ⟨k.toArray⟩ (grownCap W k.length 0 5)) 5 ((bytesRow ⟨k.toArray⟩ (grownCap W k.length 0 5)).size, (bytesRow ⟨k.toArray⟩ (grownCap W k.length 0 5)).size + 1), fun W => ?_, fun W => ⟨grownCap_ge W _ _ _, grownCap_le_maxLen W _ _ _ (by unfold maxLen; omega)⟩, fun W => ?_⟩
 ·exact run_bytes_of_string W 9 37 5 ⟨k.toArray⟩ Tryz.underlying9 Tryz.underlying37 Tryz.underlying5
 ·refine ⟨⟨_, _, heap_new8 W.drew _, ?_, rfl, fun i u hu => ?_⟩, rfl⟩
  ·simp only [bytesRow, List.map_toArray]
   simp
  ·have hi : i < k.length := (List.getElem?_eq_some_iff.1 hu).1
   simp only [bytesRow, List.map_toArray]
   rw [Array.getElem?_append_left (by simpa using hi)]
   simp [hu, bv]

theorem set_same {l : List UInt8} {j : Nat} {u : UInt8} (h : l[j]? = some u) : l.set j u = l := by
 apply List.ext_getElem?
 intro i
 rw [List.getElem?_set]
 by_cases hij : j = i
 ·subst hij
  rw [if_pos rfl, if_pos (List.getElem?_eq_some_iff.1 h).1, h]
 ·rw [if_neg hij]
theorem small_get (xs : List UInt8) (j : Nat) (u : UInt8) (hu : xs[j]? = some u) : (smallL (xs.take j) ++ xs.drop j)[j]? = some u := by
 have hj : j < xs.length := (List.getElem?_eq_some_iff.1 hu).1
 rw [List.getElem?_append_right (by rw [smallL_len, List.length_take]; omega), smallL_len, List.length_take, Nat.min_eq_left (by omega), Nat.sub_self, List.getElem?_drop, Nat.add_zero]
 exact hu
theorem small_at (xs : List UInt8) (j : Nat) (u : UInt8) (hu : xs[j]? = some u) : (smallL (xs.take j) ++ xs.drop j).set j (small1 u) = smallL (xs.take (j + 1)) ++ xs.drop (j + 1) := by
 have hj : j < xs.length := (List.getElem?_eq_some_iff.1 hu).1
 have hl : (smallL (xs.take j)).length = j := by rw [smallL_len, List.length_take]; omega
 have hd : xs.drop j = u :: xs.drop (j + 1) := by
  rw [List.drop_eq_getElem_cons hj]
  rw [List.getElem?_eq_getElem hj] at hu
  injection hu with hu
  rw [hu]
 rw [List.set_append_right _ _ (by omega), hl, Nat.sub_self, hd, List.set_cons_zero, List.take_add_one, hu]
 simp [smallL]

theorem small_is (xs : List UInt8) (w : World) (hx : xs.length ≤ 9223372036854775807) : Calls Tryz.prog 79 #[.string ⟨xs.toArray⟩] w fun e w' => e = .returned (.string ⟨(smallL xs).toArray⟩) ∧ Keeps [] w w' := by
 obtain ⟨C, O, hcv, hcap, hrow⟩ := conv_row xs hx
 have HCV := Lib.hid hcv
 obtain ⟨n, hn⟩ : ∃ n, xs.length = n := ⟨_, rfl⟩
 have hcv2 := hcv
 rw [hn] at hcv2
 have HROW : Hid (RowB (w.alloc (O w)).drew w.heap.size xs.length xs) := hrow w
 rw [hn] at HROW
 have HCAP := Lib.hid (hcap w)
 rw [hn] at HCAP
 have HN := Lib.hid hn
 have hn63 : n ≤ 9223372036854775807 := by omega
 clear hcv hrow hcap HCV hx hn
 go_enter Tryz.func79, Tryz.ntmps79
 go_wp2_with fail
 have HK1 : Hid (Keeps [] w (w.alloc (O w)).drew) := ((Keeps.refl [] w).alloc _).drew
 generalize (w.alloc (O w)).drew = W1 at *
 obtain ⟨c, hc⟩ : ∃ c, C w = c := ⟨_, rfl⟩
 rw [hc] at HCAP ⊢
 clear hc hcv2
 go_loopw [10] (fun i wr => ∃ j : Nat, i = .int .i64 (j : Int) ∧ j ≤ n ∧ Hid (RowB wr w.heap.size n (smallL (xs.take j) ++ xs.drop j)) ∧ Hid (Keeps [] w wr)) (fun i _ => n - (intOf i).toNat)
 case atStart => exact ⟨0, rfl, Nat.zero_le _, by simpa [smallL, Hid] using HROW, HK1.out⟩
 case round =>
  obtain ⟨j, rfl, hj, HR, HKR⟩ := hrel
  by_cases hlt : j < n
  ·obtain ⟨u, hu⟩ : ∃ u, xs[j]? = some u := ⟨_, List.getElem?_eq_getElem (by have := HN.out; omega)⟩
   have hgt := small_get xs j u hu
   have hcu := HR.out.cell j u hgt
   have hfu := HR.out.free j hlt
   have hul : u.toNat < 256 := u.toNat_lt
   have HS := Lib.hid (small_at xs j u hu)
   have HSN := Lib.hid (small1_nat u)
   clear hu
   by_cases hup : 65 ≤ u.toNat ∧ u.toNat ≤ 90
   ·obtain ⟨hup1, hup2⟩ := hup
    rw [if_pos ⟨hup1, hup2⟩] at HSN
    go_wp2_with fail
    have hnx := HR.out.set j hlt (small1 u)
    rw [HS.out, HSN.out, show ((u.toNat + 32 : Nat) : Int) = (u.toNat : Int) - 65 + 97 by omega] at hnx
    have hkx := HKR.out.setCell (p := ⟨w.heap.size, j, none⟩) (.inr (Nat.le_refl _)) (.int .u8 ((u.toNat : Int) - 65 + 97))
    go_roundw
    case rel => exact ⟨j + 1, by go_num, by omega, hnx, hkx⟩
    case measure => simp [intOf]; omega
   ·have HNO : Hid (small1 u = u) := by
     apply UInt8.toNat_inj.1
     rw [HSN.out, if_neg hup]
    have hnx : Hid (RowB wr w.heap.size n (smallL (xs.take (j + 1)) ++ xs.drop (j + 1))) := by
     show RowB _ _ _ _
     rw [← HS.out, HNO.out, set_same hgt]
     exact HR.out
    clear HSN hgt
    rcases Nat.lt_or_ge u.toNat 65 with h1 | h1
    ·go_wp2_with fail
     go_roundw
     case rel => exact ⟨j + 1, by go_num, by omega, hnx.out, HKR.out⟩
     case measure => simp [intOf]; omega
    ·have h2 : 90 < u.toNat := by omega
     clear hup
     go_wp2_with fail
     go_roundw
     case rel => exact ⟨j + 1, by go_num, by omega, hnx.out, HKR.out⟩
     case measure => simp [intOf]; omega
  ·obtain rfl : j = n := by omega
   have HE : Hid (smallL (xs.take j) ++ xs.drop j = smallL xs) := by
    show _ = _
    rw [List.take_of_length_le (by have := HN.out; omega), List.drop_of_length_le (by have := HN.out; omega), List.append_nil]
   rw [HE.out] at HR
   have hcb := conv_bytes (HR.out.bytes HCAP.out.1 HCAP.out.2)
   go_wp2_with fail
   go_ret
   exact ⟨rfl, HKR.out⟩

end Go.Proofs.YtbfebljahjmjfaaGreatDoor
/- dn: the document's Small; letters; walked. -/
namespace Go.Proofs.YtbfebljahjmjfaaGreatDoor
open Go.RowKit Go.Shelf
set_option linter.unusedVariables false
set_option linter.unusedSimpArgs false
set_option maxRecDepth 100000

theorem isletter_is (c : UInt8) (w : World) : Calls Tryz.prog 327 #[.int .u8 (c.toNat : Int)] w fun e w' => e = .returned (.bool (let1 c)) ∧ w = w' := by
 have hc : c.toNat < 256 := c.toNat_lt
 obtain ⟨r, hr⟩ : ∃ r, let1 c = r := ⟨_, rfl⟩
 rw [hr]
 unfold let1 at hr
 go_enter Tryz.func327, Tryz.ntmps327
 rcases Nat.lt_or_ge c.toNat 97 with h1 | h1
 ·obtain rfl : r = false := by rw [← hr]; simp; omega
  clear hr
  go_wp2_with fail
  go_ret
  exact ⟨rfl, rfl⟩
 ·rcases Nat.lt_or_ge 122 c.toNat with h2 | h2
  ·obtain rfl : r = false := by rw [← hr]; simp; omega
   have h2b : decide ((c.toNat : Int) ≤ 122) = false := by simp; omega
   clear hr
   go_wp2_with fail
   go_ret
   exact ⟨by rw [← h2b]; rfl, rfl⟩
  ·obtain rfl : r = true := by rw [← hr]; simp; omega
   have h2b : decide ((c.toNat : Int) ≤ 122) = true := by simp; omega
   clear hr
   go_wp2_with fail
   go_ret
   exact ⟨by rw [← h2b]; rfl, rfl⟩

theorem maystand6_is (c : UInt8) (w : World) : Calls Tryz.prog 329 #[.int .u8 (c.toNat : Int)] w fun e w' => e = .returned (.bool (typ1 c)) ∧ w = w' := by
 have hc : c.toNat < 256 := c.toNat_lt
 have HL := Lib.hid (fun X => isletter_is c X)
 obtain ⟨r, hr⟩ : ∃ r, typ1 c = r := ⟨_, rfl⟩
 rw [hr]
 unfold typ1 at hr
 obtain ⟨l, hl⟩ : ∃ l, let1 c = l := ⟨_, rfl⟩
 rw [hl] at HL hr
 clear hl
 go_enter Tryz.func329, Tryz.ntmps329
 go_wp2_with fail
 refine (HL.out _).mono ?_
 rintro e w1 ⟨rfl, rfl⟩
 cases l
 ·rcases Nat.lt_or_ge c.toNat 48 with h1 | h1
  ·by_cases h3 : c.toNat = 45
   ·obtain rfl : r = true := by rw [← hr, h3]; rfl
    have h3i : (c.toNat : Int) = 45 := by omega
    clear hr h3
    go_wp2_with fail
    go_ret
    exact ⟨rfl, rfl⟩
   ·obtain rfl : r = false := by rw [← hr]; simp [h3]; omega
    have h3i : ¬ (c.toNat : Int) = 45 := by omega
    have h3b : ((c.toNat : Int) == 45) = false := by simpa using h3i
    clear hr h3
    go_wp2_with fail
    go_ret
    exact ⟨rfl, rfl⟩
  ·rcases Nat.lt_or_ge 57 c.toNat with h2 | h2
   ·obtain rfl : r = false := by rw [← hr]; simp; omega
    have h3i : ¬ (c.toNat : Int) = 45 := by omega
    have h3b : ((c.toNat : Int) == 45) = false := by simpa using h3i
    have h2b : decide ((c.toNat : Int) ≤ 57) = false := by simp; omega
    clear hr
    go_wp2_with fail
    go_ret
    exact ⟨rfl, rfl⟩
   ·obtain rfl : r = true := by rw [← hr]; simp; omega
    have h2b : decide ((c.toNat : Int) ≤ 57) = true := by simp; omega
    clear hr
    go_wp2_with fail
    go_ret
    exact ⟨by rw [← h2b]; rfl, rfl⟩
 ·obtain rfl : r = true := by rw [← hr]; rfl
  clear hr
  go_wp2_with fail
  go_ret
  exact ⟨rfl, rfl⟩

theorem small_take (xs : List UInt8) (j : Nat) (u : UInt8) (hu : xs[j]? = some u) : smallL (xs.take (j + 1)) = smallL (xs.take j) ++ [small1 u] := by
 rw [List.take_add_one, hu]
 simp [smallL]
theorem one_text (w : World) (u : Int) (hu : 0 ≤ u ∧ u < 256) : (convert 37 9 (.slice (some ⟨w.heap.size, 0, none⟩) 1 1)).run Tryz.prog (w.alloc (.cells #[.int .u8 u] 5)) = .ok (.string ⟨#[UInt8.ofNat u.toNat]⟩) (w.alloc (.cells #[.int .u8 u] 5)) := by
 have h : BytesAt (w.alloc (.cells #[.int .u8 u] 5)) (.slice (some ⟨w.heap.size, 0, none⟩) 1 1) [UInt8.ofNat u.toNat] := by
  refine ⟨_, 1, rfl, Nat.le_refl _, by unfold maxLen; omega, fun _ => ⟨w.heap.size, 0, rfl, fun i x hx => ?_⟩⟩
  cases i with
  | zero =>
   simp at hx
   subst hx
   rw [World.cell?_alloc_new]
   show some (Value.int .u8 u) = some (.int .u8 ((UInt8.ofNat u.toNat).toNat : Int))
   rw [UInt8.toNat_ofNat', show ((u.toNat % 2 ^ 8 : Nat) : Int) = u by omega]
  | succ i => simp at hx
 exact conv_bytes h

theorem str_at (xs : List UInt8) (j : Nat) (u : UInt8) (hu : xs[j]? = some u) (W : World) : (Instr.index 9 (.string ⟨xs.toArray⟩) (.int .i64 (j : Int))).run Tryz.prog W = .ok (.int .u8 (u.toNat : Int)) W := by
 obtain ⟨hj, rfl⟩ := List.getElem?_eq_some_iff.1 hu
 rw [run_index_string W 9 ⟨xs.toArray⟩ .i64 (j : Int) Tryz.underlying9, dif_pos (by simp [ByteArray.size]; exact hj)]
 rfl

theorem cat_small (xs : List UInt8) (j : Nat) (x : UInt8) (h : xs.length ≤ 9223372036854775807) (hj : j < xs.length) (W : World) : (Op.stringOp .add ⟨(smallL (xs.take j)).toArray⟩ ⟨#[x]⟩).run Tryz.prog W = .ok (.string (⟨(smallL (xs.take j)).toArray⟩ ++ ⟨#[x]⟩)) W := by
 have h1 : (smallL (xs.take j)).length ≤ j := by rw [smallL_len, List.length_take]; omega
 generalize smallL (xs.take j) = ys at *
 refine run_string_add_sum W _ _ ?_
 have e1 : (⟨ys.toArray⟩ : ByteArray).size = ys.length := rfl
 have e2 : (⟨#[x]⟩ : ByteArray).size = 1 := rfl
 rw [e1, e2]
 omega

theorem rsmall_is (xs : List UInt8) (w : World) (hx : xs.length ≤ 9223372036854775807) : Calls Tryz.prog 34 #[.string ⟨xs.toArray⟩] w fun e w' => e = .returned (.string ⟨(smallL xs).toArray⟩) ∧ Keeps [] w w' := by
 have H63 := Lib.hid hx
 clear hx
 go_enter Tryz.func34, Tryz.ntmps34
 go_wp2_with fail
 go_loopw [3, 4] (fun o i wr => ∃ j : Nat, o = .string ⟨(smallL (xs.take j)).toArray⟩ ∧ i = .int .i64 (j : Int) ∧ j ≤ xs.length ∧ Hid (Keeps [] w wr)) (fun _ i _ => xs.length - (intOf i).toNat)
 case atStart => exact ⟨0, by simp [smallL], rfl, Nat.zero_le _, Keeps.refl _ _⟩
 case round =>
  obtain ⟨j, rfl, rfl, hj, HKR⟩ := hrel
  by_cases hlt : j < xs.length
  ·obtain ⟨u, hu⟩ : ∃ u, xs[j]? = some u := ⟨_, List.getElem?_eq_getElem hlt⟩
   have hul : u.toNat < 256 := u.toNat_lt
   have HT := Lib.hid (small_take xs j u hu)
   have HSN := Lib.hid (small1_nat u)
   have hix := str_at xs j u hu
   have HX : Hid ((⟨(smallL (xs.take (j + 1))).toArray⟩ : ByteArray) = ⟨(smallL (xs.take j)).toArray⟩ ++ ⟨#[small1 u]⟩) := by
    show _ = _
    rw [HT.out]
    apply ByteArray.ext
    simp
   have HCS := Lib.hid (fun x W => cat_small xs j x H63.out hlt W)
   have hw : wrap64 ((j : Int) + 1) = (j : Int) + 1 := by have := H63.out; unfold wrap64; omega
   clear hu HT
   rcases Nat.lt_or_ge u.toNat 65 with h1 | h1
   ·have HNO : small1 u = u := UInt8.toNat_inj.1 (by rw [HSN.out, if_neg (by omega)])
    have hcv := one_text wr (u.toNat : Int) (by omega)
    rw [show UInt8.ofNat ((u.toNat : Int).toNat) = u from by simp] at hcv
    rw [HNO] at HX
    have hcs := HCS.out u
    clear HNO HSN HCS
    go_wp2_with fail
    go_roundw
    case rel => exact ⟨j + 1, by rw [HX.out], by rw [hw]; rfl, by omega, HKR.out.alloc _⟩
    case measure => rw [hw]; simp [intOf]; omega
   ·rcases Nat.lt_or_ge 90 u.toNat with h2 | h2
    ·have HNO : small1 u = u := UInt8.toNat_inj.1 (by rw [HSN.out, if_neg (by omega)])
     have hcv := one_text wr (u.toNat : Int) (by omega)
     rw [show UInt8.ofNat ((u.toNat : Int).toNat) = u from by simp] at hcv
     rw [HNO] at HX
     have hd : decide ((u.toNat : Int) ≤ 90) = false := by simp; omega
     have hcs := HCS.out u
     clear HNO HSN HCS
     go_wp2_with fail
     go_roundw
     case rel => exact ⟨j + 1, by rw [HX.out], by rw [hw]; rfl, by omega, HKR.out.alloc _⟩
     case measure => rw [hw]; simp [intOf]; omega
    ·have hcv := one_text wr ((u.toNat : Int) + 32) (by omega)
     rw [show UInt8.ofNat (((u.toNat : Int) + 32).toNat) = small1 u from UInt8.toNat_inj.1 (by rw [HSN.out, if_pos ⟨h1, h2⟩, UInt8.toNat_ofNat']; omega)] at hcv
     have hd : decide ((u.toNat : Int) ≤ 90) = true := by simp; omega
     have hcs := HCS.out (small1 u)
     clear HSN HCS
     go_wp2_with fail
     go_roundw
     case rel => exact ⟨j + 1, by rw [HX.out], by rw [hw]; rfl, by omega, HKR.out.alloc _⟩
     case measure => rw [hw]; simp [intOf]; omega
  ·obtain rfl : j = xs.length := by omega
   rw [List.take_length] 
   go_wp2_with fail
   go_ret
   exact ⟨rfl, HKR.out⟩

end Go.Proofs.YtbfebljahjmjfaaGreatDoor
/- dn: what may be a Type; walked. -/
namespace Go.Proofs.YtbfebljahjmjfaaGreatDoor
open Go.RowKit Go.Shelf
set_option linter.unusedVariables false
set_option linter.unusedSimpArgs false
set_option maxRecDepth 100000

theorem all_take {xs : List UInt8} {p : UInt8 → Bool} {j : Nat} {u : UInt8} (hu : xs[j]? = some u) : (xs.take (j + 1)).all p = ((xs.take j).all p && p u) := by
 rw [List.take_add_one, hu]
 simp
theorem all_cut {xs : List UInt8} {p : UInt8 → Bool} {j : Nat} {u : UInt8} (hu : xs[j]? = some u) (h : p u = false) : xs.all p = false := by
 rw [← Bool.not_eq_true, List.all_eq_true]
 intro hx
 have := hx u (List.mem_of_getElem? hu)
 rw [h] at this
 cases this

theorem eachb_is (A : Option Addr) (n c : Nat) (xs : List UInt8) (w : World) (hl : xs.length = n) (hn : n ≤ 9223372036854775807) (hb : BytesAt w (.slice A n c) xs) :
  Calls Tryz.prog 328 #[.slice A n c, .func (.func 329) #[] #[]] w fun e w' => e = .returned (.bool (xs.all typ1)) ∧ w = w' := by
 have HB := Lib.hid hb
 have HL := Lib.hid hl
 clear hb hl
 go_enter Tryz.func328, Tryz.ntmps328
 go_wp2_with fail
 go_loopw [9] (fun i wr => ∃ j : Nat, i = .int .i64 (j : Int) ∧ j ≤ n ∧ Hid ((xs.take j).all typ1 = true) ∧ wr = w) (fun i _ => n - (intOf i).toNat)
 case atStart => exact ⟨0, rfl, Nat.zero_le _, rfl, rfl⟩
 case round =>
  obtain ⟨j, rfl, hj, HA, rfl⟩ := hrel
  by_cases hlt : j < n
  ·obtain ⟨b, o, rfl, hc⟩ := bytes_addr HB.out (by omega)
   obtain ⟨u, hu⟩ : ∃ u, xs[j]? = some u := ⟨_, List.getElem?_eq_getElem (by have := HL.out; omega)⟩
   have hcu := hc j u hu
   have HM := Lib.hid (maystand6_is u wr)
   have HT := Lib.hid (all_take (p := typ1) hu)
   have HC := Lib.hid (fun h => all_cut (p := typ1) hu h)
   obtain ⟨r, hr⟩ : ∃ r, typ1 u = r := ⟨_, rfl⟩
   rw [hr] at HM HT HC
   clear hc hu hr
   go_wp2_with fail
   refine HM.out.mono ?_
   rintro e w1 ⟨rfl, rfl⟩
   cases r
   ·go_wp2_with fail
    go_ret
    exact ⟨by rw [HC.out (by first | exact trivial | rfl)]; rfl, rfl⟩
   ·go_wp2_with fail
    go_roundw
    case rel => exact ⟨j + 1, by go_num, by omega, by show _ = _; rw [HT.out, HA.out]; rfl, trivial⟩
    case measure => simp [intOf]; omega
  ·obtain rfl : j = n := by omega
   have h9 := HA.out
   rw [List.take_of_length_le (by have := HL.out; omega)] at h9
   have H9 := Lib.hid h9
   clear h9
   go_wp2_with fail
   go_ret
   exact ⟨by rw [H9.out]; rfl, rfl⟩

theorem maytype_is (xs : List UInt8) (w : World) (hx : xs.length ≤ 9223372036854775807) : Calls Tryz.prog 306 #[.string ⟨xs.toArray⟩] w fun e w' => e = .returned (.bool (typeOk xs)) ∧ Keeps [] w w' := by
 obtain ⟨C, O, hcv, hcap, hrow⟩ := conv_row xs hx
 have HE := Lib.hid (eachb_is (some ⟨w.heap.size, 0, none⟩) xs.length (C w) xs (w.alloc (O w)).drew rfl hx ((hrow w).bytes (hcap w).1 (hcap w).2))
 obtain ⟨r, hr⟩ : ∃ r, typeOk xs = r := ⟨_, rfl⟩
 rw [hr]
 unfold typeOk at hr
 have HR := Lib.hid hr
 clear hr hrow hcap
 rcases Nat.eq_zero_or_pos xs.length with h0 | h0
 ·have hxe : xs = [] := List.length_eq_zero_iff.1 h0
  subst hxe
  obtain rfl : r = false := by rw [← HR.out]; rfl
  clear HE hcv hx h0
  go_enter Tryz.func306, Tryz.ntmps306
  go_wp2_with fail
  go_ret
  exact ⟨rfl, Keeps.refl _ _⟩
 ·obtain ⟨u, hu⟩ : ∃ u, xs[0]? = some u := ⟨_, List.getElem?_eq_getElem h0⟩
  have hix := str_at xs 0 u hu
  rw [show (((0 : Nat)) : Int) = 0 from rfl] at hix
  have hhd : (xs.head?.map let1).getD false = let1 u := by
   cases xs with
   | nil => simp at h0
   | cons y ys => simp at hu; subst hu; rfl
  have HHD := Lib.hid hhd
  have HLT := Lib.hid (isletter_is u w)
  have hg : decide ((1 : Int) ≤ (xs.length : Int)) = true := by simp; omega
  have hg1 : (1 : Int) ≤ (xs.length : Int) := by omega
  clear hhd hu
  rcases Nat.lt_or_ge 64 xs.length with h1 | h1
  ·obtain rfl : r = false := by
    rw [← HR.out, show decide (xs.length ≤ 64) = false by simp; omega]; simp
   have hg2 : decide ((xs.length : Int) ≤ 64) = false := by simp; omega
   clear h1 HE hcv hx
   go_enter Tryz.func306, Tryz.ntmps306
   go_wp2_with fail
   go_ret
   exact ⟨rfl, Keeps.refl _ _⟩
  ·have hg2 : decide ((xs.length : Int) ≤ 64) = true := by simp; omega
   have hg3 : (xs.length : Int) ≤ 64 := by omega
   have HV : Hid (r = (let1 u && xs.all typ1)) := by
    show _ = _
    rw [← HR.out, HHD.out, show decide (xs.length ≤ 64) = true by simp; omega, show decide (1 ≤ xs.length) = true by simp; omega]
    simp
   obtain ⟨l, hl⟩ : ∃ l, let1 u = l := ⟨_, rfl⟩
   obtain ⟨q, hq⟩ : ∃ q, xs.all typ1 = q := ⟨_, rfl⟩
   rw [hl] at HLT HV
   rw [hq] at HE HV
   clear hl hq h0 h1 HR HHD hx
   go_enter Tryz.func306, Tryz.ntmps306
   go_wp2_with fail
   refine HLT.out.mono ?_
   rintro e w1 ⟨rfl, rfl⟩
   cases l
   ·obtain rfl : r = false := by rw [HV.out]; rfl
    go_wp2_with fail
    go_ret
    exact ⟨rfl, Keeps.refl _ _⟩
   ·obtain rfl : r = q := by rw [HV.out]; rfl
    go_wp2_with fail
    refine HE.out.mono ?_
    rintro e w2 ⟨rfl, rfl⟩
    go_wp2_with fail
    go_ret
    exact ⟨rfl, ((Keeps.refl [] w).alloc _).drew⟩

end Go.Proofs.YtbfebljahjmjfaaGreatDoor
/- dn: names in memory; what may be a part, a name; walked. -/
namespace Go.Proofs.YtbfebljahjmjfaaGreatDoor
open Go.RowKit Go.Shelf
set_option linter.unusedVariables false
set_option linter.unusedSimpArgs false
set_option maxRecDepth 100000

/-- A text as a value. -/
def tv (s : List UInt8) : Value := .string ⟨s.toArray⟩
/-- A name in memory: its parts, one behind the other. -/
def DnIn (w : World) (A : Option Addr) (n : Nat) (d : List Part6) : Prop :=
 d.length = n ∧ (∀ p ∈ d, p.1.length ≤ 9223372036854775807 ∧ p.2.length ≤ 9223372036854775807) ∧ (0 < n → ∃ b o, A = some ⟨b, o, none⟩ ∧ ∀ (i : Nat) (p : Part6), d[i]? = some p → w.cell? ⟨b, o + i * 2, none⟩ = some (tv p.1) ∧ w.cell? ⟨b, o + i * 2 + 1, none⟩ = some (tv p.2))
theorem DnIn.grow {w w' : World} {A : Option Addr} {n : Nat} {d : List Part6} (hk : Keeps [] w w') (h : DnIn w A n d) : DnIn w' A n d := by
 obtain ⟨h1, h2, h3⟩ := h
 refine ⟨h1, h2, fun hp => ?_⟩
 obtain ⟨b, o, e, hc⟩ := h3 hp
 refine ⟨b, o, e, fun i p hi => ?_⟩
 obtain ⟨c1, c2⟩ := hc i p hi
 exact ⟨(hk.cell (lt_of_cell c1) (by simp)).trans c1, (hk.cell (lt_of_cell c2) (by simp)).trans c2⟩

theorem two_facts6 {w : World} {g : Nat} {a b : Value} {t : TypeId} (h : w.heap[g]? = some (.cells #[a, b] t (0, 0))) : w.cell? ⟨g, 0, none⟩ = some a ∧ w.cell? ⟨g, 1, none⟩ = some b := ⟨by rw [cell_of_blk h]; rfl, by rw [cell_of_blk h]; rfl⟩

theorem maypart_is (p : Part6) (w : World) (h1 : p.1.length ≤ 9223372036854775807) (h2 : p.2.length ≤ 9223372036854775807) : Calls Tryz.prog 271 #[.agg #[tv p.1, tv p.2]] w fun e w' => e = .returned (.bool (partOk p)) ∧ Keeps [] w w' := by
 obtain ⟨s, v⟩ := p
 have hk0 : Keeps [] w (w.alloc (.cells #[tv s, tv v] 63)) := (Keeps.refl [] w).alloc _
 have hr0 : (w.alloc (.cells #[tv s, tv v] 63)).heap[w.heap.size]? = some (.cells #[tv s, tv v] 63 (0, 0)) := heap_new8 w _
 obtain ⟨W0, hW0⟩ : ∃ W0, w.alloc (.cells #[tv s, tv v] 63) = W0 := ⟨_, rfl⟩
 rw [hW0] at hk0 hr0
 have HF := Lib.hid (fun X (hk : Keeps [] W0 X) => two_facts6 (blk_keep hr0 hk (by simp)))
 have HK0 := Lib.hid hk0
 have HT := Lib.hid (maytype_is s W0 h1)
 obtain ⟨y0, y1⟩ := HF.out W0 (Keeps.refl _ _)
 obtain ⟨r, hr⟩ : ∃ r, partOk (s, v) = r := ⟨_, rfl⟩
 rw [hr]
 unfold partOk at hr
 dsimp only at hr h1 h2
 obtain ⟨l, hl⟩ : ∃ l, typeOk s = l := ⟨_, rfl⟩
 rw [hl] at HT hr
 clear hk0 hr0 hl h1 h2
 unfold tv at *
 go_enter Tryz.func271, Tryz.ntmps271
 go_wp2_with fail
 refine HT.out.mono ?_
 rintro e w1 ⟨rfl, hk1⟩
 have HK1 := Lib.hid (HK0.out.trans' hk1)
 clear y0 y1
 obtain ⟨y0, y1⟩ := HF.out w1 hk1
 clear hk1
 cases l
 ·obtain rfl : r = false := by rw [← hr]; rfl
  clear hr
  go_wp2_with fail
  go_ret
  exact ⟨rfl, HK1.out⟩
 ·rcases Nat.eq_zero_or_pos v.length with h0 | h0
  ·have hve : v = [] := List.length_eq_zero_iff.1 h0
   subst hve
   obtain rfl : r = false := by rw [← hr]; rfl
   clear hr h0
   go_wp2_with fail
   go_ret
   exact ⟨rfl, HK1.out⟩
  ·have hg : (1 : Int) ≤ (v.length : Int) := by omega
   rcases Nat.lt_or_ge 200 v.length with h3 | h3
   ·obtain rfl : r = false := by rw [← hr]; simp; omega
    have hg2 : decide ((v.length : Int) ≤ 200) = false := by simp; omega
    clear hr h0 h3
    go_wp2_with fail
    go_ret
    exact ⟨by rw [← hg2]; rfl, HK1.out⟩
   ·obtain rfl : r = true := by rw [← hr]; simp; omega
    have hg2 : decide ((v.length : Int) ≤ 200) = true := by simp; omega
    clear hr h0 h3
    go_wp2_with fail
    go_ret
    exact ⟨by rw [← hg2]; rfl, HK1.out⟩

end Go.Proofs.YtbfebljahjmjfaaGreatDoor
