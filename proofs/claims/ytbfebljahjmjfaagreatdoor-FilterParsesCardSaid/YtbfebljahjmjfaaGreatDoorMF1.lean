/- Texts of one proof, laid together: F34. -/
import Derived.Shelf.Pu.SyntaxError
import Derived.Lib.IfaceEq
import Derived.Shelf.Pu.ToError
import Derived.Test.YtbfebljahjmjfaaGreatDoorMF0
/- filter: strconv.ParseUint of two digits; walked. -/
namespace Go.Proofs.YtbfebljahjmjfaaGreatDoor
open Go.RowKit Go.Shelf
set_option linter.unusedVariables false
set_option linter.unusedSimpArgs false
set_option maxRecDepth 100000

def pu_ren : Go.Shelf.Ren := ⟨fun | 21 => 302 | 25 => 324 | n => n, fun | 0 => 0 | 3 => 3 | 4 => 4 | 5 => 5 | 9 => 9 | 24 => 225 | 37 => 37 | 39 => 322 | 44 => 344 | 47 => 359 | 67 => 242 | n => n, fun | 0 => 3 | n => n⟩

theorem pu_lays : LaysPu.n21 Tryz.prog pu_ren where
  mixed := by kernel_rfl
  f21 := Tryz.func302.trans (congrArg some (by kernel_rfl))
  f25 := Tryz.func324.trans (congrArg some (by kernel_rfl))
  t0 := Tryz.underlying0
  a0 := Tryz.isAgg0
  z0 := Tryz.sizeOf0
  v0 := Tryz.zeroValue0
  i0 := by kernel_rfl
  t3 := Tryz.underlying3
  a3 := Tryz.isAgg3
  z3 := Tryz.sizeOf3
  v3 := Tryz.zeroValue3
  i3 := by kernel_rfl
  t4 := Tryz.underlying4
  a4 := Tryz.isAgg4
  z4 := Tryz.sizeOf4
  v4 := Tryz.zeroValue4
  i4 := by kernel_rfl
  t5 := Tryz.underlying5
  a5 := Tryz.isAgg5
  z5 := Tryz.sizeOf5
  v5 := Tryz.zeroValue5
  i5 := by kernel_rfl
  t9 := Tryz.underlying9
  a9 := Tryz.isAgg9
  z9 := Tryz.sizeOf9
  v9 := Tryz.zeroValue9
  i9 := by kernel_rfl
  t24 := Tryz.underlying225
  a24 := Tryz.isAgg225
  z24 := Tryz.sizeOf225
  v24 := Tryz.zeroValue225
  i24 := by kernel_rfl
  t37 := Tryz.underlying37
  a37 := Tryz.isAgg37
  z37 := Tryz.sizeOf37
  v37 := Tryz.zeroValue37
  i37 := by kernel_rfl
  t39 := Tryz.underlying322
  a39 := Tryz.isAgg322
  z39 := Tryz.sizeOf322
  v39 := Tryz.zeroValue322
  i39 := by kernel_rfl
  t44 := Tryz.underlying344
  a44 := Tryz.isAgg344
  z44 := Tryz.sizeOf344
  v44 := Tryz.zeroValue344
  i44 := by kernel_rfl
  t47 := Tryz.underlying359
  a47 := Tryz.isAgg359
  z47 := Tryz.sizeOf359
  v47 := Tryz.zeroValue359
  i47 := by kernel_rfl
  t67 := Tryz.underlying242
  a67 := Tryz.isAgg242
  z67 := Tryz.sizeOf242
  v67 := Tryz.zeroValue242
  i67 := by kernel_rfl
  g0 := by kernel_rfl
  m0 := by kernel_rfl

/-- The package's variable ErrSyntax is there. -/
def SynAt (w : World) : Prop := ∃ ev, w.cell? ⟨3, 0, none⟩ = some ev ∧ (ev = .nilIface ∨ ∃ te pe, ev = .iface te pe)
theorem SynAt.keep {w w' : World} {bs : List Nat} (h : SynAt w) (hk : Keeps bs w w') (hb : 3 ∉ bs) : SynAt w' := by
  obtain ⟨ev, h1, h2⟩ := h
  exact ⟨ev, (hk.cell (lt_of_cell h1) (by simpa using hb)).trans h1, h2⟩
theorem SynAt.lt {w : World} (h : SynAt w) : 3 < w.heap.size := by
  obtain ⟨ev, h1, _⟩ := h
  exact lt_of_cell h1

theorem toerror_is (fn s : List UInt8) (x y : Int) (w : World) (hs : s.length ≤ 1000000) (h : SynAt w) :
    Calls Tryz.prog 265 #[.string ⟨fn.toArray⟩, .string ⟨s.toArray⟩, .int .i64 x, .int .i64 y, .iface 320 (.int .i64 2)] w fun e w' => ∃ N, e = .returned (.iface 322 (.pointer (some ⟨N, 0, none⟩))) ∧ Keeps [] w w' := by
  obtain ⟨ev, h1, h2⟩ := h
  have HS := Lib.hid (AnyPu.strconv_syntaxError pu_lays ⟨fn.toArray⟩ ⟨s.toArray⟩ ev w (by show s.length ≤ _; omega) h1 h2)
  have heq : ∀ W, (binOp .eql 225 (.iface 320 (.int .i64 2)) (.iface 320 (.int .i64 2))).run Tryz.prog W = .ok (.bool true) W := fun W => Lib.run_eql_iface_int W 2 2 Tryz.underlying225 (by kernel_rfl) Tryz.underlying320
  clear h1 h2
  go_enter Tryz.func265, Tryz.ntmps265
  go_wp2_with fail
  refine HS.out.mono ?_
  rintro e w1 ⟨N, rfl, _, _, hb⟩
  have HB := Lib.hid hb
  clear hb
  go_wp2_with fail
  go_ret
  exact ⟨N, rfl, Keeps.of_below HB.out⟩

/-- What a text of two bytes is read as. -/
def PuE (R : Option Nat) (e : Ending) : Prop := (∀ N, R = some N → e = .returned (.tuple #[.int .u64 (N : Int), .nilIface])) ∧ (R = none → ∃ x t v, e = .returned (.tuple #[.int .u64 x, .iface t v]))
theorem scpu_is (l : List UInt8) (w : World) (hl : l.length = 2) (h : SynAt w) :
    Calls Tryz.prog 206 #[.string ⟨l.toArray⟩, .int .i64 16, .int .i64 8] w fun e w' => PuE (hexN l) e ∧ Keeps [] w w' := by
  have HI := Lib.hid (ipu_is l w hl)
  have HT := Lib.hid (fun X (hk : Keeps [] w X) => toerror_is [80, 97, 114, 115, 101, 85, 105, 110, 116] l 16 8 X (by omega) (h.keep hk (by simp)))
  obtain ⟨R, hR⟩ : ∃ R, hexN l = R := ⟨_, rfl⟩
  rw [hR] at HI ⊢
  have HN := Lib.hid (fun (W : World) (t : TypeId) (v : Value) => (show True from trivial))
  clear hl hR h
  go_enter Tryz.func206, Tryz.ntmps206
  go_wp2_with fail
  refine HI.out.mono ?_
  rintro e w1 ⟨⟨hp1, hp2⟩, hk⟩
  have HK := Lib.hid hk
  clear hk
  cases R with
  | some N =>
    obtain rfl := hp1 N rfl
    clear hp1 hp2
    go_wp2_with fail
    go_ret2
    exact ⟨⟨fun N' h => by injection h with h; subst h; rfl, fun h => by cases h⟩, HK.out⟩
  | none =>
    obtain rfl := hp2 rfl
    clear hp1 hp2
    go_wp2_with fail
    refine (HT.out _ HK.out).mono ?_
    rintro e w2 ⟨N, rfl, hk2⟩
    have HK2 := Lib.hid (HK.out.trans' hk2)
    clear hk2
    go_wp2_with fail
    go_ret2
    exact ⟨⟨fun N' h => (by cases h), fun _ => ⟨_, _, _, rfl⟩⟩, HK2.out⟩

end Go.Proofs.YtbfebljahjmjfaaGreatDoor
