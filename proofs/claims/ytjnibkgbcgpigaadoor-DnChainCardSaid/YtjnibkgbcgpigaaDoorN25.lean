
/- dn: strconv.ParseUint of two digits; walked. -/
import Derived.Shelf.Pu.SyntaxError
import Derived.Lib.IfaceEq
import Derived.Test.YtjnibkgbcgpigaaDoorN24
namespace Go.Proofs.YtjnibkgbcgpigaaDoor
open Go.RowKit Go.Shelf
set_option linter.unusedVariables false
set_option linter.unusedSimpArgs false
set_option maxRecDepth 100000

def pu_ren : Go.Shelf.Ren := ⟨fun | 21 => 77 | 25 => 81 | n => n, fun | 0 => 0 | 3 => 3 | 4 => 4 | 5 => 5 | 9 => 9 | 24 => 74 | 37 => 43 | 39 => 99 | 44 => 103 | 47 => 85 | 67 => 77 | n => n, fun | 0 => 1 | n => n⟩

theorem pu_lays : LaysPu.n21 Tryd.prog pu_ren where
  mixed := by kernel_rfl
  f21 := Tryd.func77.trans (congrArg some (by kernel_rfl))
  f25 := Tryd.func81.trans (congrArg some (by kernel_rfl))
  t0 := Tryd.underlying0
  a0 := Tryd.isAgg0
  z0 := Tryd.sizeOf0
  v0 := Tryd.zeroValue0
  i0 := by kernel_rfl
  t3 := Tryd.underlying3
  a3 := Tryd.isAgg3
  z3 := Tryd.sizeOf3
  v3 := Tryd.zeroValue3
  i3 := by kernel_rfl
  t4 := Tryd.underlying4
  a4 := Tryd.isAgg4
  z4 := Tryd.sizeOf4
  v4 := Tryd.zeroValue4
  i4 := by kernel_rfl
  t5 := Tryd.underlying5
  a5 := Tryd.isAgg5
  z5 := Tryd.sizeOf5
  v5 := Tryd.zeroValue5
  i5 := by kernel_rfl
  t9 := Tryd.underlying9
  a9 := Tryd.isAgg9
  z9 := Tryd.sizeOf9
  v9 := Tryd.zeroValue9
  i9 := by kernel_rfl
  t24 := Tryd.underlying74
  a24 := Tryd.isAgg74
  z24 := Tryd.sizeOf74
  v24 := Tryd.zeroValue74
  i24 := by kernel_rfl
  t37 := Tryd.underlying43
  a37 := Tryd.isAgg43
  z37 := Tryd.sizeOf43
  v37 := Tryd.zeroValue43
  i37 := by kernel_rfl
  t39 := Tryd.underlying99
  a39 := Tryd.isAgg99
  z39 := Tryd.sizeOf99
  v39 := Tryd.zeroValue99
  i39 := by kernel_rfl
  t44 := Tryd.underlying103
  a44 := Tryd.isAgg103
  z44 := Tryd.sizeOf103
  v44 := Tryd.zeroValue103
  i44 := by kernel_rfl
  t47 := Tryd.underlying85
  a47 := Tryd.isAgg85
  z47 := Tryd.sizeOf85
  v47 := Tryd.zeroValue85
  i47 := by kernel_rfl
  t67 := Tryd.underlying77
  a67 := Tryd.isAgg77
  z67 := Tryd.sizeOf77
  v67 := Tryd.zeroValue77
  i67 := by kernel_rfl
  g0 := by kernel_rfl
  m0 := by kernel_rfl

/-- The package's variable ErrSyntax is there. -/
def SynAt (w : World) : Prop := ∃ ev, w.cell? ⟨1, 0, none⟩ = some ev ∧ (ev = .nilIface ∨ ∃ te pe, ev = .iface te pe)
theorem SynAt.keep {w w' : World} {bs : List Nat} (h : SynAt w) (hk : Keeps bs w w') (hb : 1 ∉ bs) : SynAt w' := by
  obtain ⟨ev, h1, h2⟩ := h
  exact ⟨ev, (hk.cell (lt_of_cell h1) (by simpa using hb)).trans h1, h2⟩
theorem SynAt.lt {w : World} (h : SynAt w) : 1 < w.heap.size := by
  obtain ⟨ev, h1, _⟩ := h
  exact lt_of_cell h1

theorem toerror_is (fn s : List UInt8) (x y : Int) (w : World) (hs : s.length ≤ 1000000) (h : SynAt w) :
    Calls Tryd.prog 74 #[.string ⟨fn.toArray⟩, .string ⟨s.toArray⟩, .int .i64 x, .int .i64 y, .iface 97 (.int .i64 2)] w fun e w' => ∃ N, e = .returned (.iface 99 (.pointer (some ⟨N, 0, none⟩))) ∧ Keeps [] w w' := by
  obtain ⟨ev, h1, h2⟩ := h
  have HS := Lib.hid (AnyPu.strconv_syntaxError pu_lays ⟨fn.toArray⟩ ⟨s.toArray⟩ ev w (by show s.length ≤ _; omega) h1 h2)
  have heq : ∀ W, (binOp .eql 74 (.iface 97 (.int .i64 2)) (.iface 97 (.int .i64 2))).run Tryd.prog W = .ok (.bool true) W := fun W => Lib.run_eql_iface_int W 2 2 Tryd.underlying74 (by kernel_rfl) Tryd.underlying97
  clear h1 h2
  go_enter Tryd.func74, Tryd.ntmps74
  go_wp2_with fail
  refine HS.out.mono ?_
  rintro e w1 ⟨N, rfl, _, _, hb⟩
  have HB := Lib.hid hb
  clear hb
  go_wp2_with fail
  go_ret
  exact ⟨N, rfl, Keeps.of_below HB.out⟩

/-- What a text of two bytes is read as. -/
def PuE (R : Option Nat) (e : Ending) : Prop := (∀ N, R = some N → e = .returned (.tuple #[.int .u64 (N : Int), .nilIface])) ∧ (R = none → ∃ x t v, e = .returned (.tuple #[.int .u64 x, .iface t v]))
theorem scpu_is (l : List UInt8) (w : World) (hl : l.length = 2) (h : SynAt w) :
    Calls Tryd.prog 72 #[.string ⟨l.toArray⟩, .int .i64 16, .int .i64 8] w fun e w' => PuE (hexN l) e ∧ Keeps [] w w' := by
  have HI := Lib.hid (ipu_is l w hl)
  have HT := Lib.hid (fun X (hk : Keeps [] w X) => toerror_is [80, 97, 114, 115, 101, 85, 105, 110, 116] l 16 8 X (by omega) (h.keep hk (by simp)))
  obtain ⟨R, hR⟩ : ∃ R, hexN l = R := ⟨_, rfl⟩
  rw [hR] at HI ⊢
  have HN := Lib.hid (fun (W : World) (t : TypeId) (v : Value) => (show True from trivial))
  clear hl hR h
  go_enter Tryd.func72, Tryd.ntmps72
  go_wp2_with fail
  refine HI.out.mono ?_
  rintro e w1 ⟨⟨hp1, hp2⟩, hk⟩
  have HK := Lib.hid hk
  clear hk
  cases R with
  | some N =>
    obtain rfl := hp1 N rfl
    clear hp1 hp2
    go_wp2_with fail
    go_ret2
    exact ⟨⟨fun N' h => by injection h with h; subst h; rfl, fun h => by cases h⟩, HK.out⟩
  | none =>
    obtain rfl := hp2 rfl
    clear hp1 hp2
    go_wp2_with fail
    refine (HT.out _ HK.out).mono ?_
    rintro e w2 ⟨N, rfl, hk2⟩
    have HK2 := Lib.hid (HK.out.trans' hk2)
    clear hk2
    go_wp2_with fail
    go_ret2
    exact ⟨⟨fun N' h => (by cases h), fun _ => ⟨_, _, _, rfl⟩⟩, HK2.out⟩

end Go.Proofs.YtjnibkgbcgpigaaDoor
