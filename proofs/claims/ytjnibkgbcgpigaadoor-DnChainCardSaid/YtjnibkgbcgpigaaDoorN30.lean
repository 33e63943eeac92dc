
/- dn: the name whose text it is; walked. -/
import Derived.Test.YtjnibkgbcgpigaaDoorN29
namespace Go.Proofs.YtjnibkgbcgpigaaDoor
open Go.RowKit Go.Shelf
set_option linter.unusedVariables false
set_option linter.unusedSimpArgs false
set_option maxRecDepth 100000

theorem cutL_len (a : UInt8) (xs : List UInt8) : (cutL a xs).1.length ≤ xs.length := by
  cases h : (cutL a xs).2 with
  | none => rw [cutL_all a xs h]; exact Nat.le_refl _
  | some r =>
    have h1 := congrArg List.length (cutL_some a xs r h)
    simp at h1
    omega
theorem valL_len (n : Nat) (rest v : List UInt8) (h : valL n rest = some v) : v.length ≤ rest.length := by
  induction hk : rest.length using Nat.strongRecOn generalizing rest v with
  | ind m ih =>
    cases rest with
    | nil => simp [valL] at h; subst h; simp at hk; simp
    | cons c r =>
      by_cases h92 : c = 92
      · subst h92
        cases hb : behindL r with
        | none => rw [valL_bs_none hb] at h; cases h
        | some xr =>
          obtain ⟨x, r'⟩ := xr
          rw [valL_bs_some hb] at h
          cases hv : valL n r' with
          | none => rw [hv] at h; cases h
          | some v' =>
            rw [hv] at h
            simp at h
            subst h
            have h1 := behindL_lt hb
            have h2 := ih r'.length (by simp at hk; omega) r' v' hv rfl
            simp at hk ⊢
            omega
      · by_cases hy : (plain1 c && !ask6 (mark6 c.toNat) (plc6 (n - (r.length + 1)) n)) = true
        · rw [valL_yes h92 hy] at h
          cases hv : valL n r with
          | none => rw [hv] at h; cases h
          | some v' =>
            rw [hv] at h
            simp at h
            subst h
            have h2 := ih r.length (by simp at hk; omega) r v' hv rfl
            simp at hk ⊢
            omega
        · rw [valL_no h92 (by simpa using hy)] at h
          cases h

/-- What a round of nameOf's loop finds. -/
structure NamS (T : List UInt8) (p : Nat) (W2 wr : World) (A : Option Addr) (an cc : Nat) (mo : Bool) (k : Nat) (acc : List Part6) : Prop where
  inv : NamI T acc mo k
  len : acc.length = an
  ok : nameOk acc = true
  box : Box1 wr p 3 (.int .i64 (k : Int))
  row : wr.ownsRow W2.heap.size 38 2 (.slice A an cc) an (dnCells acc)
  keep : Keeps [p] W2 wr
theorem NamS.apart {T : List UInt8} {p an cc k : Nat} {W2 wr : World} {A : Option Addr} {mo : Bool} {acc : List Part6} (h : NamS T p W2 wr A an cc mo k acc) (hp : p < W2.heap.size) : ∀ b, (Value.slice A an cc).ownBlock = some b → b ∉ [p] := fun b hb hm => by
  have := (h.row.lt b hb).1
  simp at hm
  omega
theorem NamS.more {T s x : List UInt8} {p an cc k q : Nat} {W2 wr w6 w7 : World} {A : Option Addr} {mo : Bool} {acc : List Part6} {v : Value} (h : NamS T p W2 wr A an cc mo k acc) (hp : p < W2.heap.size) (hb : Box1 w6 p 3 (.int .i64 (q : Int))) (hk : Keeps [p] wr w6)
    (ho : w7.ownsRow W2.heap.size 38 2 v (an + 1) (dnCells acc ++ [tv s, tv x])) (hg : (w6.alloc (.cells #[tv s, tv x] 38)).grownBy w7 (Value.slice A an cc).ownBlock) :
    ∃ VB vd, v = .slice VB (an + 1) vd ∧ Box1 w7 p 3 (.int .i64 (q : Int)) ∧ w7.ownsRow W2.heap.size 38 2 (.slice VB (an + 1) vd) (an + 1) (dnCells (acc ++ [(s, x)])) ∧ Keeps [p] W2 w7 := by
  obtain ⟨VB, vd, hv⟩ := own_slice ho
  subst hv
  have hnp := h.apart hp
  have hrow2 : (w6.alloc (.cells #[tv s, tv x] 38)).ownsRow W2.heap.size 38 2 (.slice A an cc) an (dnCells acc) := own_keep h.row (hk.alloc _) hnp
  have hk2 : Keeps [p] W2 (w6.alloc (.cells #[tv s, tv x] 38)) := h.keep.trans (hk.alloc _) (fun x hx => .inl hx)
  refine ⟨VB, vd, rfl, ?_, by rw [dnCells_snoc]; exact ho, keeps_own6 hrow2 hk2 hg⟩
  have hgk := Keeps.of_grown (bs := (Value.slice A an cc).ownBlock.toList) hg (fun x hx => .inl (by rw [hx]; simp))
  have hb2 : Box1 (w6.alloc (.cells #[tv s, tv x] 38)) p 3 (.int .i64 (q : Int)) := hb.keep (bs := []) ((Keeps.refl [] _).alloc _) (by simp)
  refine hb2.keep hgk (fun hm => ?_)
  have h9 : (Value.slice A an cc).ownBlock = some p := by simpa using hm
  exact hnp p h9 (by simp)
theorem rdn_info : (Tryd.prog.info? 38).map (fun i => (i.zero, i.size, i.bytes)) = some (some (.agg #[.string ⟨#[]⟩, .string ⟨#[]⟩]), 2, 32) := by kernel_rfl
theorem src_two6 (w : World) (x y : Value) (t : TypeId) : Src (w.alloc (.cells #[x, y] t)) (some ⟨w.heap.size, 0, none⟩) 1 [x, y] := by
  refine ⟨(fun h => by cases h), fun ad hA j u hu => ?_⟩
  cases hA
  rw [add_at, Nat.zero_add, World.cell?_alloc_new]
  simpa using hu
def mes6 (v : Value) (x : Nat) : Nat := match v with | .bool true => x | _ => 0

end Go.Proofs.YtjnibkgbcgpigaaDoor
