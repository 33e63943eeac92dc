
/- dn: the map of marks: laid, looked up. -/
import Derived.Test.YtjnibkgbcgpigaaDoorN8
import Derived.Maps.Own
namespace Go.Proofs.YtjnibkgbcgpigaaDoor
open Go.RowKit Go.Maps Go.ChangeMaps Go.MapKept
set_option linter.unusedVariables false
set_option linter.unusedSimpArgs false
set_option maxRecDepth 100000

theorem klaw6 : Keyed Tryd.prog 5 := int_keyed Tryd.underlying5
theorem kkey6 (n : Nat) (h : n < 256) : keyOf Tryd.prog 5 (.int .u8 (n : Int)) = some (.int .u8 (n : Int)) := keyOf_int_mk Tryd.underlying5 (by simp [Lit.wf, IntKind.min, IntKind.max, IntKind.signed, IntKind.bits]; omega)
/-- Where a byte must have a backslash ahead, as the map has it. -/
def mark6 (c : Nat) : Nat := if c = 44 ∨ c = 43 ∨ c = 34 ∨ c = 92 ∨ c = 60 ∨ c = 62 ∨ c = 59 ∨ c = 61 then 7 else if c = 35 then 1 else if c = 32 then 5 else 0
def marksD : DataW Unit := (((((((((((DataW.map []).put (.int .u8 ((44 : Nat) : Int)) (.lit (.int .u8 7))).put (.int .u8 ((43 : Nat) : Int)) (.lit (.int .u8 7))).put (.int .u8 ((34 : Nat) : Int)) (.lit (.int .u8 7))).put (.int .u8 ((92 : Nat) : Int)) (.lit (.int .u8 7))).put (.int .u8 ((60 : Nat) : Int)) (.lit (.int .u8 7))).put (.int .u8 ((62 : Nat) : Int)) (.lit (.int .u8 7))).put (.int .u8 ((59 : Nat) : Int)) (.lit (.int .u8 7))).put (.int .u8 ((61 : Nat) : Int)) (.lit (.int .u8 7))).put (.int .u8 ((35 : Nat) : Int)) (.lit (.int .u8 1))).put (.int .u8 ((32 : Nat) : Int)) (.lit (.int .u8 5)))
/-- The map of marks in memory. -/
def MarksAt (w : World) (b : Nat) : Prop := w.ownsMap Tryd.prog 5 (plainElem (H := Unit) Tryd.prog 65) b 10 marksD
def numOf6 : DataW Unit → Int
  | .lit (.int _ c) => c
  | _ => -1
theorem marks_tab : ∀ n : Fin 256, numOf6 (marksD.atKey (.int .u8 (n.val : Int)) (.lit (.int .u8 0))) = (mark6 n.val : Int) := by decide +kernel
theorem marks_look {w : World} {b : Nat} (h : MarksAt w b) (c : UInt8) : (Instr.lookup 48 (.map (some b)) (.int .u8 (c.toNat : Int)) false).run Tryd.prog w = .ok (.int .u8 (mark6 c.toNat : Int)) w := by
  have hc : c.toNat < 256 := c.toNat_lt
  obtain ⟨q, h1, h2, _⟩ := World.ownsMap.lookup_int h klaw6 Tryd.underlying48 Tryd.underlying65 (Tryd.zeroValue65 w) (kkey6 c.toNat hc)
  have h3 := marks_tab ⟨c.toNat, hc⟩
  rw [h2] at h3
  rw [h1, show q = (mark6 c.toNat : Int) from h3]

theorem allmarks_is (w : World) : Calls Tryd.prog 29 #[] w fun e w' => ∃ b, e = .returned (.map (some b)) ∧ w.heap.size ≤ b ∧ MarksAt w' b ∧ Keeps [] w w' := by
  have hmk : (Instr.makeMap 48 none).run Tryd.prog w = .ok (.map (some w.heap.size)) (w.alloc (.map #[] 0)) := rfl
  have o0 := World.ownsMap_made w Tryd.prog 5 (plainElem (H := Unit) Tryd.prog 65)
  obtain ⟨w1, h1, o1, g1⟩ := World.ownsMap.update o0 klaw6 Tryd.underlying48 (by unfold maxLen; omega) (key := .int .u8 44) (val := .int .u8 7) (kkey6 44 (by decide)) (plainElem_int (H := Unit) (q := .u8) (a := 7) Tryd.underlying65 (by decide))
  obtain ⟨w2, h2, o2, g2⟩ := World.ownsMap.update o1 klaw6 Tryd.underlying48 (by unfold maxLen; omega) (key := .int .u8 43) (val := .int .u8 7) (kkey6 43 (by decide)) (plainElem_int (H := Unit) (q := .u8) (a := 7) Tryd.underlying65 (by decide))
  obtain ⟨w3, h3, o3, g3⟩ := World.ownsMap.update o2 klaw6 Tryd.underlying48 (by unfold maxLen; omega) (key := .int .u8 34) (val := .int .u8 7) (kkey6 34 (by decide)) (plainElem_int (H := Unit) (q := .u8) (a := 7) Tryd.underlying65 (by decide))
  obtain ⟨w4, h4, o4, g4⟩ := World.ownsMap.update o3 klaw6 Tryd.underlying48 (by unfold maxLen; omega) (key := .int .u8 92) (val := .int .u8 7) (kkey6 92 (by decide)) (plainElem_int (H := Unit) (q := .u8) (a := 7) Tryd.underlying65 (by decide))
  obtain ⟨w5, h5, o5, g5⟩ := World.ownsMap.update o4 klaw6 Tryd.underlying48 (by unfold maxLen; omega) (key := .int .u8 60) (val := .int .u8 7) (kkey6 60 (by decide)) (plainElem_int (H := Unit) (q := .u8) (a := 7) Tryd.underlying65 (by decide))
  obtain ⟨w6, h6, o6, g6⟩ := World.ownsMap.update o5 klaw6 Tryd.underlying48 (by unfold maxLen; omega) (key := .int .u8 62) (val := .int .u8 7) (kkey6 62 (by decide)) (plainElem_int (H := Unit) (q := .u8) (a := 7) Tryd.underlying65 (by decide))
  obtain ⟨w7, h7, o7, g7⟩ := World.ownsMap.update o6 klaw6 Tryd.underlying48 (by unfold maxLen; omega) (key := .int .u8 59) (val := .int .u8 7) (kkey6 59 (by decide)) (plainElem_int (H := Unit) (q := .u8) (a := 7) Tryd.underlying65 (by decide))
  obtain ⟨w8, h8, o8, g8⟩ := World.ownsMap.update o7 klaw6 Tryd.underlying48 (by unfold maxLen; omega) (key := .int .u8 61) (val := .int .u8 7) (kkey6 61 (by decide)) (plainElem_int (H := Unit) (q := .u8) (a := 7) Tryd.underlying65 (by decide))
  obtain ⟨w9, h9, o9, g9⟩ := World.ownsMap.update o8 klaw6 Tryd.underlying48 (by unfold maxLen; omega) (key := .int .u8 35) (val := .int .u8 1) (kkey6 35 (by decide)) (plainElem_int (H := Unit) (q := .u8) (a := 1) Tryd.underlying65 (by decide))
  obtain ⟨w10, h10, o10, g10⟩ := World.ownsMap.update o9 klaw6 Tryd.underlying48 (by unfold maxLen; omega) (key := .int .u8 32) (val := .int .u8 5) (kkey6 32 (by decide)) (plainElem_int (H := Unit) (q := .u8) (a := 5) Tryd.underlying65 (by decide))
  have HO : Hid (MarksAt w10 w.heap.size) := o10
  have k0 : Keeps [] w (w.alloc (.map #[] 0)) := (Keeps.refl [] w).alloc _
  have k1 : Keeps [] w w1 := k0.trans (Keeps.of_grown (bs := [w.heap.size]) g1 (fun x hx => .inl (by simpa using hx.symm))) (fun x hx => .inr (by simp at hx; omega))
  have k2 : Keeps [] w w2 := k1.trans (Keeps.of_grown (bs := [w.heap.size]) g2 (fun x hx => .inl (by simpa using hx.symm))) (fun x hx => .inr (by simp at hx; omega))
  have k3 : Keeps [] w w3 := k2.trans (Keeps.of_grown (bs := [w.heap.size]) g3 (fun x hx => .inl (by simpa using hx.symm))) (fun x hx => .inr (by simp at hx; omega))
  have k4 : Keeps [] w w4 := k3.trans (Keeps.of_grown (bs := [w.heap.size]) g4 (fun x hx => .inl (by simpa using hx.symm))) (fun x hx => .inr (by simp at hx; omega))
  have k5 : Keeps [] w w5 := k4.trans (Keeps.of_grown (bs := [w.heap.size]) g5 (fun x hx => .inl (by simpa using hx.symm))) (fun x hx => .inr (by simp at hx; omega))
  have k6 : Keeps [] w w6 := k5.trans (Keeps.of_grown (bs := [w.heap.size]) g6 (fun x hx => .inl (by simpa using hx.symm))) (fun x hx => .inr (by simp at hx; omega))
  have k7 : Keeps [] w w7 := k6.trans (Keeps.of_grown (bs := [w.heap.size]) g7 (fun x hx => .inl (by simpa using hx.symm))) (fun x hx => .inr (by simp at hx; omega))
  have k8 : Keeps [] w w8 := k7.trans (Keeps.of_grown (bs := [w.heap.size]) g8 (fun x hx => .inl (by simpa using hx.symm))) (fun x hx => .inr (by simp at hx; omega))
  have k9 : Keeps [] w w9 := k8.trans (Keeps.of_grown (bs := [w.heap.size]) g9 (fun x hx => .inl (by simpa using hx.symm))) (fun x hx => .inr (by simp at hx; omega))
  have k10 : Keeps [] w w10 := k9.trans (Keeps.of_grown (bs := [w.heap.size]) g10 (fun x hx => .inl (by simpa using hx.symm))) (fun x hx => .inr (by simp at hx; omega))
  have HK := Lib.hid k10
  clear k0 k1 k2 k3 k4 k5 k6 k7 k8 k9 k10 o0 o1 o2 o3 o4 o5 o6 o7 o8 o9 o10 g1 g2 g3 g4 g5 g6 g7 g8 g9 g10
  go_enter Tryd.func29, Tryd.ntmps29
  go_wp2_with fail
  go_ret
  exact ⟨_, rfl, Nat.le_refl _, HO.out, HK.out⟩

end Go.Proofs.YtjnibkgbcgpigaaDoor
