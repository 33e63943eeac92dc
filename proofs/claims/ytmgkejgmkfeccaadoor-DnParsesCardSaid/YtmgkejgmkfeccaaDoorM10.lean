/- Texts of one proof, laid together: N18 N19. -/
import Derived.Shelf.Strings.OnBuilder
import Derived.Test.YtmgkejgmkfeccaaDoorM07
import Derived.Test.YtmgkejgmkfeccaaDoorM05
import Derived.Deep.RegionHeld3
/- dn: strings.Join, by the shelf's contract. -/
namespace Go.Proofs.YtmgkejgmkfeccaaDoor
open Go.RowKit Go.Shelf
set_option linter.unusedVariables false

def sjoin_ren : Go.Shelf.Ren := ⟨fun | 156 => 37 | 165 => 67 | 166 => 51 | 169 => 53 | 240 => 78 | 241 => 87 | 276 => 91 | 277 => 102 | n => n, fun | 0 => 0 | 3 => 3 | 4 => 4 | 5 => 5 | 9 => 9 | 20 => 20 | 31 => 34 | 37 => 83 | 70 => 91 | 72 => 93 | 75 => 95 | 76 => 96 | 80 => 99 | 127 => 129 | 164 => 135 | n => n, fun n => n⟩

theorem sjoin_lays : Lays.n156 Tryd.prog sjoin_ren where
  mixed := by kernel_rfl
  f156 := Tryd.func37.trans (congrArg some (by kernel_rfl))
  f165 := Tryd.func67.trans (congrArg some (by kernel_rfl))
  f166 := Tryd.func51.trans (congrArg some (by kernel_rfl))
  f169 := Tryd.func53.trans (congrArg some (by kernel_rfl))
  f240 := Tryd.func78.trans (congrArg some (by kernel_rfl))
  f241 := Tryd.func87.trans (congrArg some (by kernel_rfl))
  f276 := Tryd.func91.trans (congrArg some (by kernel_rfl))
  f277 := Tryd.func102.trans (congrArg some (by kernel_rfl))
  t0 := Tryd.underlying0
  a0 := Tryd.isAgg0
  z0 := Tryd.sizeOf0
  v0 := Tryd.zeroValue0
  t3 := Tryd.underlying3
  a3 := Tryd.isAgg3
  z3 := Tryd.sizeOf3
  v3 := Tryd.zeroValue3
  t4 := Tryd.underlying4
  a4 := Tryd.isAgg4
  z4 := Tryd.sizeOf4
  v4 := Tryd.zeroValue4
  t9 := Tryd.underlying9
  a9 := Tryd.isAgg9
  z9 := Tryd.sizeOf9
  v9 := Tryd.zeroValue9
  t20 := Tryd.underlying20
  a20 := Tryd.isAgg20
  z20 := Tryd.sizeOf20
  v20 := Tryd.zeroValue20
  t31 := Tryd.underlying34
  a31 := Tryd.isAgg34
  z31 := Tryd.sizeOf34
  v31 := Tryd.zeroValue34
  t37 := Tryd.underlying83
  a37 := Tryd.isAgg83
  z37 := Tryd.sizeOf83
  v37 := Tryd.zeroValue83
  t70 := Tryd.underlying91
  a70 := Tryd.isAgg91
  z70 := Tryd.sizeOf91
  v70 := Tryd.zeroValue91
  t72 := Tryd.underlying93
  a72 := Tryd.isAgg93
  z72 := Tryd.sizeOf93
  v72 := Tryd.zeroValue93
  t75 := Tryd.underlying95
  a75 := Tryd.isAgg95
  z75 := Tryd.sizeOf95
  v75 := Tryd.zeroValue95
  t76 := Tryd.underlying96
  a76 := Tryd.isAgg96
  z76 := Tryd.sizeOf96
  v76 := Tryd.zeroValue96
  t127 := Tryd.underlying129
  a127 := Tryd.isAgg129
  z127 := Tryd.sizeOf129
  v127 := Tryd.zeroValue129
  t164 := Tryd.underlying135
  a164 := Tryd.isAgg135
  z164 := Tryd.sizeOf135
  v164 := Tryd.zeroValue135
theorem sjoin_extra : Builder.Extra Tryd.prog sjoin_ren where
  sizeBuilder := by kernel_rfl
  liesBuilder := by kernel_rfl
  t5 := Tryd.underlying5
  a5 := Tryd.isAgg5
  z5 := Tryd.sizeOf5
  v5 := Tryd.zeroValue5
  infoByte := by kernel_rfl
  cellsByte := by kernel_rfl
  sizeByte := by kernel_rfl
  neB5 := by decide

end Go.Proofs.YtmgkejgmkfeccaaDoor
/- dn: a name's text; walked. -/
namespace Go.Proofs.YtmgkejgmkfeccaaDoor
open Go.RowKit Go.Shelf
set_option linter.unusedVariables false
set_option linter.unusedSimpArgs false
set_option maxRecDepth 100000

/-- A part's text. -/
def partT (p : Part6) : List UInt8 := p.1 ++ [61] ++ text6 p.2.length 0 p.2
/-- A name's text. -/
def dnT (d : List Part6) : List UInt8 := Lib.join (d.map partT) [44]
theorem partOk_len {p : Part6} (h : partOk p = true) : 1 ≤ p.1.length ∧ p.1.length ≤ 64 ∧ 1 ≤ p.2.length ∧ p.2.length ≤ 200 := by
  unfold partOk typeOk at h
  simp only [Bool.and_eq_true, decide_eq_true_eq] at h
  exact ⟨h.1.1, h.1.2.1, h.2.1, h.2.2⟩
theorem partT_len {p : Part6} (h : partOk p = true) : (partT p).length ≤ 665 := by
  have h1 := partOk_len h
  have h2 := text_len6 p.2.length p.2 0
  unfold partT
  simp only [List.length_append, List.length_cons, List.length_nil]
  omega
theorem lens_parts : ∀ (d : List Part6), (∀ p ∈ d, partOk p = true) → (Lib.joinTail [44] (d.map partT)).length ≤ 666 * d.length
  | [], _ => by simp [Lib.joinTail]
  | p :: r, h => by
    have h1 := lens_parts r fun q hq => h q (by simp [hq])
    have h2 := partT_len (h p (by simp))
    unfold Lib.joinTail at *
    simp only [List.map_cons, List.flatten_cons, List.length_append, List.length_cons, List.length_nil] at *
    omega
theorem dnT_len {d : List Part6} (h : nameOk d = true) : (dnT d).length ≤ 16000 := by
  unfold nameOk at h
  simp only [Bool.and_eq_true, decide_eq_true_eq, List.all_eq_true] at h
  cases d with
  | nil => simp [dnT, Lib.join_nil]
  | cons p r =>
    have h1 := lens_parts r fun q hq => h.2 q (by simp [hq])
    have h2 := partT_len (h.2 p (by simp))
    have h3 := h.1
    unfold dnT
    rw [List.map_cons, Lib.join_cons, List.length_append]
    simp only [List.length_cons] at h3
    omega

theorem MarksAt.grow {w X : World} {b : Nat} (hm : MarksAt w b) (hk : Keeps [] w X) : MarksAt X b := by
  have hlt := World.ownsMap.lt hm
  obtain ⟨es, clock, h1, h2⟩ := hm
  exact ⟨es, clock, (hk.block b hlt (by simp)).trans h1, h2⟩

theorem str_info : (Tryd.prog.info? 9).map (fun i => (i.zero, i.size, i.bytes)) = some (some (.string ⟨#[]⟩), 1, 16) := by kernel_rfl
theorem cat_is (a b : List UInt8) (h : a.length + b.length ≤ 9223372036854775807) (W : World) : (Op.stringOp .add ⟨a.toArray⟩ ⟨b.toArray⟩).run Tryd.prog W = .ok (.string ⟨(a ++ b).toArray⟩) W := by
  have e : (⟨(a ++ b).toArray⟩ : ByteArray) = ⟨a.toArray⟩ ++ ⟨b.toArray⟩ := by
    apply ByteArray.ext
    simp
  rw [e]
  refine run_string_add_sum W _ _ ?_
  exact h
theorem src_one6 (w : World) (v : Value) (t : TypeId) : Src (w.alloc (.cells #[v] t)) (some ⟨w.heap.size, 0, none⟩) 1 [v] := by
  refine ⟨(fun h => by cases h), fun ad hA j u hu => ?_⟩
  cases hA
  rw [add_at, Nat.zero_add, World.cell?_alloc_new]
  simpa using hu
/-- A row of texts of one's own, joined. -/
theorem join_own (B : Nat) (A : Option Addr) (c : Nat) (ls : List (List UInt8)) (w : World) (h : w.ownsRow B 9 1 (.slice A ls.length c) ls.length (ls.map tv)) (hl : (Lib.join ls [44]).length ≤ 140737488355328) (hn : ls.length ≤ 16) :
    Calls Tryd.prog 37 #[.slice A ls.length c, .string ⟨#[44]⟩] w fun e w' => e = .returned (.string ⟨(Lib.join ls [44]).toArray⟩) ∧ Keeps [] w w' := by
  cases ls with
  | nil => exact (Any.strings_Join_none sjoin_lays sjoin_extra A c ⟨#[44]⟩ w).mono fun e w' ⟨he, hw⟩ => ⟨he, hw ▸ Keeps.refl _ _⟩
  | cons x r =>
    rcases h.2 with ⟨_, h2⟩ | ⟨g, cap, cur, hA, hg, hh, hc, hm, hx, _⟩
    · simp at h2
    · injection hA with e1 e2 e3
      subst e1 e3
      have hmm : ∀ l : List (List UInt8), (l.map fun s => (⟨s.toArray⟩ : ByteArray)).map (fun y => y.data.toList) = l := fun l => by
        rw [List.map_map]
        exact (List.map_congr_left (fun s _ => rfl)).trans (List.map_id l)
      have h1 := Any.strings_Join sjoin_lays sjoin_extra g 0 c ((x :: r).map fun s => (⟨s.toArray⟩ : ByteArray)) ⟨#[44]⟩ w (fun j y hy => by
        have := h.cells (g := g) rfl j (.string y) (by
          rw [List.getElem?_map] at hy ⊢
          cases hq : (x :: r)[j]? with
          | none => rw [hq] at hy; simp at hy
          | some q => rw [hq] at hy; simp at hy; subst hy; rfl)
        rwa [show (⟨g, 0, none⟩ : Addr).add j = ⟨g, 0 + j, none⟩ from by unfold Addr.add; split <;> simp_all] at this) (lt_of_heap hh) (by rw [List.length_map]; omega) (by rw [List.length_map]; exact hc) (by rw [hmm]; exact hl)
      rw [hmm, List.length_map] at h1
      exact h1.mono fun e w' ⟨he, hb⟩ => ⟨he, Keeps.of_below hb⟩

end Go.Proofs.YtmgkejgmkfeccaaDoor
