/- Texts of one proof, laid together: N8 N9 N10. -/
import Derived.Test.YtmgkejgmkfeccaaDoorM04
import Derived.Maps.Own
/- dn: which bytes have a backslash ahead, and where; walked. -/
namespace Go.Proofs.YtmgkejgmkfeccaaDoor
open Go.RowKit Go.Shelf
set_option linter.unusedVariables false
set_option linter.unusedSimpArgs false
set_option maxRecDepth 100000

/-- What a byte may be told by itself. -/
def plain1 (c : UInt8) : Bool := decide (32 ≤ c.toNat) && decide (c.toNat ≤ 126)
theorem isplain_is (c : UInt8) (w : World) : Calls Tryd.prog 64 #[.int .u8 (c.toNat : Int)] w fun e w' => e = .returned (.bool (plain1 c)) ∧ w = w' := by
  have hc : c.toNat < 256 := c.toNat_lt
  obtain ⟨r, hr⟩ : ∃ r, plain1 c = r := ⟨_, rfl⟩
  rw [hr]
  unfold plain1 at hr
  go_enter Tryd.func64, Tryd.ntmps64
  rcases Nat.lt_or_ge c.toNat 32 with h1 | h1
  · obtain rfl : r = false := by rw [← hr]; simp; omega
    clear hr
    go_wp2_with fail
    go_ret
    exact ⟨rfl, rfl⟩
  · rcases Nat.lt_or_ge 126 c.toNat with h2 | h2
    · obtain rfl : r = false := by rw [← hr]; simp; omega
      have h2b : decide ((c.toNat : Int) ≤ 126) = false := by simp; omega
      clear hr
      go_wp2_with fail
      go_ret
      exact ⟨by rw [← h2b]; rfl, rfl⟩
    · obtain rfl : r = true := by rw [← hr]; simp; omega
      have h2b : decide ((c.toNat : Int) ≤ 126) = true := by simp; omega
      clear hr
      go_wp2_with fail
      go_ret
      exact ⟨by rw [← h2b]; rfl, rfl⟩

/-- Where a byte stands: 1 first, 4 last, 2 between. -/
def plc6 (i n : Nat) : Nat := if i = 0 then (if n = 1 then 5 else 1) else if i + 1 = n then 4 else 2
theorem places_is (i n : Nat) (w : World) (hi : i < n) (hn : n ≤ 9223372036854775807) : Calls Tryd.prog 66 #[.int .i64 (i : Int), .int .i64 (n : Int)] w fun e w' => e = .returned (.int .u8 (plc6 i n : Int)) ∧ w = w' := by
  have hw : wrap64 ((n : Int) - 1) = (n : Int) - 1 := by unfold wrap64; omega
  obtain ⟨r, hr⟩ : ∃ r, plc6 i n = r := ⟨_, rfl⟩
  rw [hr]
  unfold plc6 at hr
  have HNB := Lib.hid hn
  clear hn
  go_enter Tryd.func66, Tryd.ntmps66
  by_cases h0 : i = 0
  · subst h0
    by_cases h1 : n = 1
    · subst h1
      obtain rfl : 5 = r := by simpa using hr
      clear hr
      go_wp2_with fail
      go_ret
      exact ⟨rfl, rfl⟩
    · obtain rfl : 1 = r := by simpa [h1] using hr
      have h2 : ¬ (0 : Int) = (n : Int) - 1 := by omega
      have h2b : ((0 : Int) == (n : Int) - 1) = false := by simpa using h2
      clear hr h1
      go_wp2_with fail
      go_ret
      exact ⟨rfl, rfl⟩
  · have h3 : ¬ (i : Int) = 0 := by omega
    have h3b : ((i : Int) == 0) = false := by simpa using h3
    by_cases h1 : i + 1 = n
    · obtain rfl : 4 = r := by simpa [h0, h1] using hr
      have h2 : (i : Int) = (n : Int) - 1 := by omega
      have h2b : ((i : Int) == (n : Int) - 1) = true := by simpa using h2
      clear hr h1 h0 h2
      go_wp2_with fail
      go_ret
      exact ⟨rfl, rfl⟩
    · obtain rfl : 2 = r := by simpa [h0, h1] using hr
      have h2 : ¬ (i : Int) = (n : Int) - 1 := by omega
      have h2b : ((i : Int) == (n : Int) - 1) = false := by simpa using h2
      clear hr h1 h0
      go_wp2_with fail
      go_ret
      exact ⟨rfl, rfl⟩

end Go.Proofs.YtmgkejgmkfeccaaDoor
/- dn: the map of marks: laid, looked up. -/
namespace Go.Proofs.YtmgkejgmkfeccaaDoor
open Go.RowKit Go.Maps Go.ChangeMaps Go.MapKept
set_option linter.unusedVariables false
set_option linter.unusedSimpArgs false
set_option maxRecDepth 100000

theorem klaw6 : Keyed Tryd.prog 5 := int_keyed Tryd.underlying5
theorem kkey6 (n : Nat) (h : n < 256) : keyOf Tryd.prog 5 (.int .u8 (n : Int)) = some (.int .u8 (n : Int)) := keyOf_int_mk Tryd.underlying5 (by simp [Lit.wf, IntKind.min, IntKind.max, IntKind.signed, IntKind.bits]; omega)
/-- Where a byte must have a backslash ahead, as the map has it. -/
def mark6 (c : Nat) : Nat := if c = 44 ∨ c = 43 ∨ c = 34 ∨ c = 92 ∨ c = 60 ∨ c = 62 ∨ c = 59 ∨ c = 61 then 7 else if c = 35 then 1 else if c = 32 then 5 else 0
def marksD : DataW Unit := (((((((((((DataW.map []).put (.int .u8 ((44 : Nat) : Int)) (.lit (.int .u8 7))).put (.int .u8 ((43 : Nat) : Int)) (.lit (.int .u8 7))).put (.int .u8 ((34 : Nat) : Int)) (.lit (.int .u8 7))).put (.int .u8 ((92 : Nat) : Int)) (.lit (.int .u8 7))).put (.int .u8 ((60 : Nat) : Int)) (.lit (.int .u8 7))).put (.int .u8 ((62 : Nat) : Int)) (.lit (.int .u8 7))).put (.int .u8 ((59 : Nat) : Int)) (.lit (.int .u8 7))).put (.int .u8 ((61 : Nat) : Int)) (.lit (.int .u8 7))).put (.int .u8 ((35 : Nat) : Int)) (.lit (.int .u8 1))).put (.int .u8 ((32 : Nat) : Int)) (.lit (.int .u8 5)))
/-- The map of marks in memory. -/
def MarksAt (w : World) (b : Nat) : Prop := w.ownsMap Tryd.prog 5 (plainElem (H := Unit) Tryd.prog 117) b 10 marksD
def numOf6 : DataW Unit → Int
  | .lit (.int _ c) => c
  | _ => -1
theorem marks_tab : ∀ n : Fin 256, numOf6 (marksD.atKey (.int .u8 (n.val : Int)) (.lit (.int .u8 0))) = (mark6 n.val : Int) := by decide +kernel
theorem marks_look {w : World} {b : Nat} (h : MarksAt w b) (c : UInt8) : (Instr.lookup 76 (.map (some b)) (.int .u8 (c.toNat : Int)) false).run Tryd.prog w = .ok (.int .u8 (mark6 c.toNat : Int)) w := by
  have hc : c.toNat < 256 := c.toNat_lt
  obtain ⟨q, h1, h2, _⟩ := World.ownsMap.lookup_int h klaw6 Tryd.underlying76 Tryd.underlying117 (Tryd.zeroValue117 w) (kkey6 c.toNat hc)
  have h3 := marks_tab ⟨c.toNat, hc⟩
  rw [h2] at h3
  rw [h1, show q = (mark6 c.toNat : Int) from h3]

theorem allmarks_is (w : World) : Calls Tryd.prog 35 #[] w fun e w' => ∃ b, e = .returned (.map (some b)) ∧ w.heap.size ≤ b ∧ MarksAt w' b ∧ Keeps [] w w' := by
  have hmk : (Instr.makeMap 76 none).run Tryd.prog w = .ok (.map (some w.heap.size)) (w.alloc (.map #[] 0)) := rfl
  have o0 := World.ownsMap_made w Tryd.prog 5 (plainElem (H := Unit) Tryd.prog 117)
  obtain ⟨w1, h1, o1, g1⟩ := World.ownsMap.update o0 klaw6 Tryd.underlying76 (by unfold maxLen; omega) (key := .int .u8 44) (val := .int .u8 7) (kkey6 44 (by decide)) (plainElem_int (H := Unit) (q := .u8) (a := 7) Tryd.underlying117 (by decide))
  obtain ⟨w2, h2, o2, g2⟩ := World.ownsMap.update o1 klaw6 Tryd.underlying76 (by unfold maxLen; omega) (key := .int .u8 43) (val := .int .u8 7) (kkey6 43 (by decide)) (plainElem_int (H := Unit) (q := .u8) (a := 7) Tryd.underlying117 (by decide))
  obtain ⟨w3, h3, o3, g3⟩ := World.ownsMap.update o2 klaw6 Tryd.underlying76 (by unfold maxLen; omega) (key := .int .u8 34) (val := .int .u8 7) (kkey6 34 (by decide)) (plainElem_int (H := Unit) (q := .u8) (a := 7) Tryd.underlying117 (by decide))
  obtain ⟨w4, h4, o4, g4⟩ := World.ownsMap.update o3 klaw6 Tryd.underlying76 (by unfold maxLen; omega) (key := .int .u8 92) (val := .int .u8 7) (kkey6 92 (by decide)) (plainElem_int (H := Unit) (q := .u8) (a := 7) Tryd.underlying117 (by decide))
  obtain ⟨w5, h5, o5, g5⟩ := World.ownsMap.update o4 klaw6 Tryd.underlying76 (by unfold maxLen; omega) (key := .int .u8 60) (val := .int .u8 7) (kkey6 60 (by decide)) (plainElem_int (H := Unit) (q := .u8) (a := 7) Tryd.underlying117 (by decide))
  obtain ⟨w6, h6, o6, g6⟩ := World.ownsMap.update o5 klaw6 Tryd.underlying76 (by unfold maxLen; omega) (key := .int .u8 62) (val := .int .u8 7) (kkey6 62 (by decide)) (plainElem_int (H := Unit) (q := .u8) (a := 7) Tryd.underlying117 (by decide))
  obtain ⟨w7, h7, o7, g7⟩ := World.ownsMap.update o6 klaw6 Tryd.underlying76 (by unfold maxLen; omega) (key := .int .u8 59) (val := .int .u8 7) (kkey6 59 (by decide)) (plainElem_int (H := Unit) (q := .u8) (a := 7) Tryd.underlying117 (by decide))
  obtain ⟨w8, h8, o8, g8⟩ := World.ownsMap.update o7 klaw6 Tryd.underlying76 (by unfold maxLen; omega) (key := .int .u8 61) (val := .int .u8 7) (kkey6 61 (by decide)) (plainElem_int (H := Unit) (q := .u8) (a := 7) Tryd.underlying117 (by decide))
  obtain ⟨w9, h9, o9, g9⟩ := World.ownsMap.update o8 klaw6 Tryd.underlying76 (by unfold maxLen; omega) (key := .int .u8 35) (val := .int .u8 1) (kkey6 35 (by decide)) (plainElem_int (H := Unit) (q := .u8) (a := 1) Tryd.underlying117 (by decide))
  obtain ⟨w10, h10, o10, g10⟩ := World.ownsMap.update o9 klaw6 Tryd.underlying76 (by unfold maxLen; omega) (key := .int .u8 32) (val := .int .u8 5) (kkey6 32 (by decide)) (plainElem_int (H := Unit) (q := .u8) (a := 5) Tryd.underlying117 (by decide))
  have HO : Hid (MarksAt w10 w.heap.size) := o10
  have k0 : Keeps [] w (w.alloc (.map #[] 0)) := (Keeps.refl [] w).alloc _
  have k1 : Keeps [] w w1 := k0.trans (Keeps.of_grown (bs := [w.heap.size]) g1 (fun x hx => .inl (by simpa using hx.symm))) (fun x hx => .inr (by simp at hx; omega))
  have k2 : Keeps [] w w2 := k1.trans (Keeps.of_grown (bs := [w.heap.size]) g2 (fun x hx => .inl (by simpa using hx.symm))) (fun x hx => .inr (by simp at hx; omega))
  have k3 : Keeps [] w w3 := k2.trans (Keeps.of_grown (bs := [w.heap.size]) g3 (fun x hx => .inl (by simpa using hx.symm))) (fun x hx => .inr (by simp at hx; omega))
  have k4 : Keeps [] w w4 := k3.trans (Keeps.of_grown (bs := [w.heap.size]) g4 (fun x hx => .inl (by simpa using hx.symm))) (fun x hx => .inr (by simp at hx; omega))
  have k5 : Keeps [] w w5 := k4.trans (Keeps.of_grown (bs := [w.heap.size]) g5 (fun x hx => .inl (by simpa using hx.symm))) (fun x hx => .inr (by simp at hx; omega))
  have k6 : Keeps [] w w6 := k5.trans (Keeps.of_grown (bs := [w.heap.size]) g6 (fun x hx => .inl (by simpa using hx.symm))) (fun x hx => .inr (by simp at hx; omega))
  have k7 : Keeps [] w w7 := k6.trans (Keeps.of_grown (bs := [w.heap.size]) g7 (fun x hx => .inl (by simpa using hx.symm))) (fun x hx => .inr (by simp at hx; omega))
  have k8 : Keeps [] w w8 := k7.trans (Keeps.of_grown (bs := [w.heap.size]) g8 (fun x hx => .inl (by simpa using hx.symm))) (fun x hx => .inr (by simp at hx; omega))
  have k9 : Keeps [] w w9 := k8.trans (Keeps.of_grown (bs := [w.heap.size]) g9 (fun x hx => .inl (by simpa using hx.symm))) (fun x hx => .inr (by simp at hx; omega))
  have k10 : Keeps [] w w10 := k9.trans (Keeps.of_grown (bs := [w.heap.size]) g10 (fun x hx => .inl (by simpa using hx.symm))) (fun x hx => .inr (by simp at hx; omega))
  have HK := Lib.hid k10
  clear k0 k1 k2 k3 k4 k5 k6 k7 k8 k9 k10 o0 o1 o2 o3 o4 o5 o6 o7 o8 o9 o10 g1 g2 g3 g4 g5 g6 g7 g8 g9 g10
  go_enter Tryd.func35, Tryd.ntmps35
  go_wp2_with fail
  go_ret
  exact ⟨_, rfl, Nat.le_refl _, HO.out, HK.out⟩

end Go.Proofs.YtmgkejgmkfeccaaDoor
/- dn: must a byte have a backslash ahead? Walked; a Value's text as words. -/
namespace Go.Proofs.YtmgkejgmkfeccaaDoor
open Go.RowKit Go.Shelf
set_option linter.unusedVariables false
set_option linter.unusedSimpArgs false
set_option maxRecDepth 100000

/-- Must a byte with these places have one, there? -/
def ask6 (mk at_ : Nat) : Bool := (mk &&& at_) != 0
theorem mark_in (c : Nat) : mark6 c = 0 ∨ mark6 c = 1 ∨ mark6 c = 5 ∨ mark6 c = 7 := by
  unfold mark6
  split
  · simp
  · split
    · simp
    · split <;> simp
theorem plc_in (i n : Nat) : plc6 i n = 1 ∨ plc6 i n = 2 ∨ plc6 i n = 4 ∨ plc6 i n = 5 := by
  unfold plc6
  split
  · split <;> simp
  · split <;> simp

theorem ask_is (b : Nat) (c : UInt8) (at_ : Nat) (w : World) (h : MarksAt w b) (hat : at_ = 1 ∨ at_ = 2 ∨ at_ = 4 ∨ at_ = 5) :
    Calls Tryd.prog 65 #[.map (some b), .int .u8 (c.toNat : Int), .int .u8 (at_ : Int)] w fun e w' => e = .returned (.bool (ask6 (mark6 c.toNat) at_)) ∧ w = w' := by
  have hl := marks_look h c
  have hm := mark_in c.toNat
  obtain ⟨mk, hmk⟩ : ∃ mk, mark6 c.toNat = mk := ⟨_, rfl⟩
  rw [hmk] at hl hm ⊢
  clear h hmk
  go_enter Tryd.func65, Tryd.ntmps65
  rcases hm with rfl | rfl | rfl | rfl <;> rcases hat with rfl | rfl | rfl | rfl
  all_goals
    go_wp2_with fail
    go_ret
    exact ⟨rfl, rfl⟩

/-- A digit to the base 16, in a text. -/
def hexd (n : Nat) : UInt8 := if n < 10 then UInt8.ofNat (48 + n) else UInt8.ofNat (87 + n)
/-- How a byte of a Value stands in a text. -/
def esc6 (i n : Nat) (c : UInt8) : List UInt8 :=
  if plain1 c = false then [92, hexd (c.toNat / 16), hexd (c.toNat % 16)]
  else if ask6 (mark6 c.toNat) (plc6 i n) then [92, c] else [c]
/-- A Value's text, from the byte of some number on. -/
def text6 (n : Nat) : Nat → List UInt8 → List UInt8
  | _, [] => []
  | i, c :: r => esc6 i n c ++ text6 n (i + 1) r
theorem esc_len (i n : Nat) (c : UInt8) : 1 ≤ (esc6 i n c).length ∧ (esc6 i n c).length ≤ 3 := by
  unfold esc6
  split
  · simp
  · split <;> simp
theorem text_len6 (n : Nat) : ∀ (r : List UInt8) (i : Nat), (text6 n i r).length ≤ 3 * r.length
  | [], _ => by simp [text6]
  | c :: r, i => by
    have h1 := (esc_len i n c).2
    have h2 := text_len6 n r (i + 1)
    simp only [text6, List.length_append, List.length_cons]
    omega

end Go.Proofs.YtmgkejgmkfeccaaDoor
