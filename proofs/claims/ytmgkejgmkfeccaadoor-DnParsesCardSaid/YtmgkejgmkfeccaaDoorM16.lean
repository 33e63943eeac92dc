/- Texts of one proof, laid together: N29 N30. -/
import Derived.Test.YtmgkejgmkfeccaaDoorM15
import Derived.Test.YtmgkejgmkfeccaaDoorM05
/- dn: the name whose text it is, as words. -/
namespace Go.Proofs.YtmgkejgmkfeccaaDoor
open Go.RowKit Go.Shelf
set_option linter.unusedVariables false
set_option linter.unusedSimpArgs false
set_option maxRecDepth 100000

theorem cutL_lt {a : UInt8} {xs r : List UInt8} (h : (cutL a xs).2 = some r) : r.length < xs.length := by
  have h1 := congrArg List.length (cutL_some a xs r h)
  simp at h1
  omega
/-- The parts of what is left of a text, behind those that are read. -/
def nameL (rest : List UInt8) (acc : List Part6) : Option (List Part6) :=
  match h : (cutL 61 rest).2 with
  | none => none
  | some r1 =>
    match valL (cutL 44 r1).1.length (cutL 44 r1).1 with
    | none => none
    | some v =>
      if nameOk (acc ++ [(smallL (cutL 61 rest).1, v)]) = true then
        match h2 : (cutL 44 r1).2 with
        | none => some (acc ++ [(smallL (cutL 61 rest).1, v)])
        | some r2 => nameL r2 (acc ++ [(smallL (cutL 61 rest).1, v)])
      else none
termination_by rest.length
decreasing_by
  have h3 := cutL_lt h
  have h4 := cutL_lt h2
  omega
/-- The name of a text. -/
def parseL (T : List UInt8) : Option (List Part6) := if T = [] then some [] else nameL T []

theorem nameL_noeq {rest : List UInt8} {acc : List Part6} (h : (cutL 61 rest).2 = none) : nameL rest acc = none := by
  rw [nameL]
  split
  · rfl
  · rename_i h2; rw [h] at h2; cases h2
theorem nameL_noval {rest r1 : List UInt8} {acc : List Part6} (h : (cutL 61 rest).2 = some r1) (h2 : valL (cutL 44 r1).1.length (cutL 44 r1).1 = none) : nameL rest acc = none := by
  rw [nameL]
  split
  · rfl
  · rename_i r1' h3
    rw [h] at h3
    injection h3 with h3
    subst h3
    rw [h2]
theorem nameL_bad {rest r1 v : List UInt8} {acc : List Part6} (h : (cutL 61 rest).2 = some r1) (h2 : valL (cutL 44 r1).1.length (cutL 44 r1).1 = some v) (h3 : nameOk (acc ++ [(smallL (cutL 61 rest).1, v)]) = false) : nameL rest acc = none := by
  rw [nameL]
  split
  · rfl
  · rename_i r1' h4
    rw [h] at h4
    injection h4 with h4
    subst h4
    rw [h2]
    simp [h3]
theorem nameL_end {rest r1 v : List UInt8} {acc : List Part6} (h : (cutL 61 rest).2 = some r1) (h2 : valL (cutL 44 r1).1.length (cutL 44 r1).1 = some v) (h3 : nameOk (acc ++ [(smallL (cutL 61 rest).1, v)]) = true) (h4 : (cutL 44 r1).2 = none) : nameL rest acc = some (acc ++ [(smallL (cutL 61 rest).1, v)]) := by
  rw [nameL]
  split
  · rename_i h5; rw [h] at h5; cases h5
  · rename_i r1' h5
    rw [h] at h5
    injection h5 with h5
    subst h5
    rw [h2]
    simp only [h3, if_true]
    split
    · rfl
    · rename_i h6; rw [h4] at h6; cases h6
theorem nameL_more {rest r1 r2 v : List UInt8} {acc : List Part6} (h : (cutL 61 rest).2 = some r1) (h2 : valL (cutL 44 r1).1.length (cutL 44 r1).1 = some v) (h3 : nameOk (acc ++ [(smallL (cutL 61 rest).1, v)]) = true) (h4 : (cutL 44 r1).2 = some r2) : nameL rest acc = nameL r2 (acc ++ [(smallL (cutL 61 rest).1, v)]) := by
  rw [nameL]
  split
  · rename_i h5; rw [h] at h5; cases h5
  · rename_i r1' h5
    rw [h] at h5
    injection h5 with h5
    subst h5
    rw [h2]
    simp only [h3, if_true]
    split
    · rename_i h6; rw [h4] at h6; cases h6
    · rename_i r2' h6
      rw [h4] at h6
      injection h6 with h6
      subst h6
      rfl

/-- A name's parts as cells. -/
def dnCells (d : List Part6) : List Value := d.flatMap fun p => [tv p.1, tv p.2]
theorem dnCells_len (d : List Part6) : (dnCells d).length = d.length * 2 := by
  unfold dnCells
  induction d with
  | nil => rfl
  | cons p r ih => simp only [List.flatMap_cons, List.length_append, ih, List.length_cons, List.length_nil]; omega
theorem dnCells_snoc (d : List Part6) (p : Part6) : dnCells (d ++ [p]) = dnCells d ++ [tv p.1, tv p.2] := by simp [dnCells]
theorem dnCells_at : ∀ (d : List Part6) (i : Nat) (p : Part6), d[i]? = some p → (dnCells d)[i * 2]? = some (tv p.1) ∧ (dnCells d)[i * 2 + 1]? = some (tv p.2)
  | [], i, p, h => by simp at h
  | q :: r, 0, p, h => by simp at h; subst h; simp [dnCells]
  | q :: r, i + 1, p, h => by
    have ih := dnCells_at r i p (by simpa using h)
    have e : dnCells (q :: r) = tv q.1 :: tv q.2 :: dnCells r := rfl
    rw [e, show (i + 1) * 2 = i * 2 + 1 + 1 by omega]
    simpa using ih
theorem DnIn.of_own {w : World} {B n c : Nat} {A : Option Addr} {t : TypeId} {d : List Part6} (h : w.ownsRow B t 2 (.slice A n c) n (dnCells d)) (hn : d.length = n) (hl : ∀ p ∈ d, p.1.length ≤ 9223372036854775807 ∧ p.2.length ≤ 9223372036854775807) : DnIn w A n d := by
  refine ⟨hn, hl, fun hp => ?_⟩
  rcases h.2 with ⟨_, h2⟩ | ⟨g, cap, cur, hA, hg, hh, r⟩
  · omega
  · injection hA with e1 e2 e3
    subst e1
    refine ⟨g, 0, rfl, fun i p hi => ?_⟩
    obtain ⟨d1, d2⟩ := dnCells_at d i p hi
    have c1 := h.cells (g := g) rfl (i * 2) _ d1
    have c2 := h.cells (g := g) rfl (i * 2 + 1) _ d2
    rw [show (⟨g, 0, none⟩ : Addr).add (i * 2) = ⟨g, 0 + i * 2, none⟩ from by unfold Addr.add; split <;> simp_all] at c1
    rw [show (⟨g, 0, none⟩ : Addr).add (i * 2 + 1) = ⟨g, 0 + i * 2 + 1, none⟩ from by unfold Addr.add; split <;> simp_all <;> omega] at c2
    exact ⟨c1, c2⟩

/-- What nameOf answers. -/
def NamQ (T : List UInt8) (w : World) (e : Ending) (w' : World) : Prop :=
  (∀ d, parseL T = some d → ∃ A n c, e = .returned (.slice A n c) ∧ n ≤ 16 ∧ DnIn w' A n d) ∧ (parseL T = none → e = gaveUp 160) ∧ Keeps [] w w'
/-- How far a name is read. -/
def NamI (T : List UInt8) (acc : List Part6) (mo : Bool) (k : Nat) : Prop :=
  (mo = true → k ≤ T.length ∧ parseL T = nameL (T.drop k) acc) ∧ (mo = false → parseL T = some acc)
theorem NamI.start (T : List UInt8) : NamI T [] (!T.isEmpty) 0 := by
  cases T with
  | nil => exact ⟨fun h => (by cases h), fun _ => rfl⟩
  | cons c r => exact ⟨fun _ => ⟨by simp, by simp [parseL]⟩, fun h => (by cases h)⟩
theorem nameOk_parts {d : List Part6} (h : nameOk d = true) : d.length ≤ 16 ∧ ∀ p ∈ d, p.1.length ≤ 9223372036854775807 ∧ p.2.length ≤ 9223372036854775807 := by
  unfold nameOk at h
  simp only [Bool.and_eq_true, decide_eq_true_eq, List.all_eq_true] at h
  refine ⟨h.1, fun p hp => ?_⟩
  have h2 := h.2 p hp
  unfold partOk typeOk at h2
  simp only [Bool.and_eq_true, decide_eq_true_eq] at h2
  omega

end Go.Proofs.YtmgkejgmkfeccaaDoor
/- dn: the name whose text it is; walked. -/
namespace Go.Proofs.YtmgkejgmkfeccaaDoor
open Go.RowKit Go.Shelf
set_option linter.unusedVariables false
set_option linter.unusedSimpArgs false
set_option maxRecDepth 100000

theorem cutL_len (a : UInt8) (xs : List UInt8) : (cutL a xs).1.length ≤ xs.length := by
  cases h : (cutL a xs).2 with
  | none => rw [cutL_all a xs h]; exact Nat.le_refl _
  | some r =>
    have h1 := congrArg List.length (cutL_some a xs r h)
    simp at h1
    omega
theorem valL_len (n : Nat) (rest v : List UInt8) (h : valL n rest = some v) : v.length ≤ rest.length := by
  induction hk : rest.length using Nat.strongRecOn generalizing rest v with
  | ind m ih =>
    cases rest with
    | nil => simp [valL] at h; subst h; simp at hk; simp
    | cons c r =>
      by_cases h92 : c = 92
      · subst h92
        cases hb : behindL r with
        | none => rw [valL_bs_none hb] at h; cases h
        | some xr =>
          obtain ⟨x, r'⟩ := xr
          rw [valL_bs_some hb] at h
          cases hv : valL n r' with
          | none => rw [hv] at h; cases h
          | some v' =>
            rw [hv] at h
            simp at h
            subst h
            have h1 := behindL_lt hb
            have h2 := ih r'.length (by simp at hk; omega) r' v' hv rfl
            simp at hk ⊢
            omega
      · by_cases hy : (plain1 c && !ask6 (mark6 c.toNat) (plc6 (n - (r.length + 1)) n)) = true
        · rw [valL_yes h92 hy] at h
          cases hv : valL n r with
          | none => rw [hv] at h; cases h
          | some v' =>
            rw [hv] at h
            simp at h
            subst h
            have h2 := ih r.length (by simp at hk; omega) r v' hv rfl
            simp at hk ⊢
            omega
        · rw [valL_no h92 (by simpa using hy)] at h
          cases h

/-- What a round of nameOf's loop finds. -/
structure NamS (T : List UInt8) (p : Nat) (W2 wr : World) (A : Option Addr) (an cc : Nat) (mo : Bool) (k : Nat) (acc : List Part6) : Prop where
  inv : NamI T acc mo k
  len : acc.length = an
  ok : nameOk acc = true
  box : Box1 wr p 3 (.int .i64 (k : Int))
  row : wr.ownsRow W2.heap.size 53 2 (.slice A an cc) an (dnCells acc)
  keep : Keeps [p] W2 wr
theorem NamS.apart {T : List UInt8} {p an cc k : Nat} {W2 wr : World} {A : Option Addr} {mo : Bool} {acc : List Part6} (h : NamS T p W2 wr A an cc mo k acc) (hp : p < W2.heap.size) : ∀ b, (Value.slice A an cc).ownBlock = some b → b ∉ [p] := fun b hb hm => by
  have := (h.row.lt b hb).1
  simp at hm
  omega
theorem NamS.more {T s x : List UInt8} {p an cc k q : Nat} {W2 wr w6 w7 : World} {A : Option Addr} {mo : Bool} {acc : List Part6} {v : Value} (h : NamS T p W2 wr A an cc mo k acc) (hp : p < W2.heap.size) (hb : Box1 w6 p 3 (.int .i64 (q : Int))) (hk : Keeps [p] wr w6)
    (ho : w7.ownsRow W2.heap.size 53 2 v (an + 1) (dnCells acc ++ [tv s, tv x])) (hg : (w6.alloc (.cells #[tv s, tv x] 53)).grownBy w7 (Value.slice A an cc).ownBlock) :
    ∃ VB vd, v = .slice VB (an + 1) vd ∧ Box1 w7 p 3 (.int .i64 (q : Int)) ∧ w7.ownsRow W2.heap.size 53 2 (.slice VB (an + 1) vd) (an + 1) (dnCells (acc ++ [(s, x)])) ∧ Keeps [p] W2 w7 := by
  obtain ⟨VB, vd, hv⟩ := own_slice ho
  subst hv
  have hnp := h.apart hp
  have hrow2 : (w6.alloc (.cells #[tv s, tv x] 53)).ownsRow W2.heap.size 53 2 (.slice A an cc) an (dnCells acc) := own_keep h.row (hk.alloc _) hnp
  have hk2 : Keeps [p] W2 (w6.alloc (.cells #[tv s, tv x] 53)) := h.keep.trans (hk.alloc _) (fun x hx => .inl hx)
  refine ⟨VB, vd, rfl, ?_, by rw [dnCells_snoc]; exact ho, keeps_own6 hrow2 hk2 hg⟩
  have hgk := Keeps.of_grown (bs := (Value.slice A an cc).ownBlock.toList) hg (fun x hx => .inl (by rw [hx]; simp))
  have hb2 : Box1 (w6.alloc (.cells #[tv s, tv x] 53)) p 3 (.int .i64 (q : Int)) := hb.keep (bs := []) ((Keeps.refl [] _).alloc _) (by simp)
  refine hb2.keep hgk (fun hm => ?_)
  have h9 : (Value.slice A an cc).ownBlock = some p := by simpa using hm
  exact hnp p h9 (by simp)
theorem rdn_info : (Tryd.prog.info? 53).map (fun i => (i.zero, i.size, i.bytes)) = some (some (.agg #[.string ⟨#[]⟩, .string ⟨#[]⟩]), 2, 32) := by kernel_rfl
theorem src_two6 (w : World) (x y : Value) (t : TypeId) : Src (w.alloc (.cells #[x, y] t)) (some ⟨w.heap.size, 0, none⟩) 1 [x, y] := by
  refine ⟨(fun h => by cases h), fun ad hA j u hu => ?_⟩
  cases hA
  rw [add_at, Nat.zero_add, World.cell?_alloc_new]
  simpa using hu
def mes6 (v : Value) (x : Nat) : Nat := match v with | .bool true => x | _ => 0

end Go.Proofs.YtmgkejgmkfeccaaDoor
