/- Texts of one proof, laid together: U54. -/
import Derived.Test.YthgpjlmdllihmaaGreatM39
import Derived.Test.YthgpjlmdllihmaaGreatM36
/- StorePlay: what a round finds. -/
namespace Go.Proofs.YthgpjlmdllihmaaGreat
open Go.RowKit Go.Shelf Go.Maps
set_option linter.unusedVariables false
set_option linter.unusedSimpArgs false
set_option maxRecDepth 100000

theorem PrsAt.keep2 {w w' : World} {A : Option Addr} {len : Nat} {T : Tab} {bs : List Nat} (h : PrsAt w A len T) (hk : Keeps bs w w') (hb : T ≠ [] → ∀ a, A = some a → a.block ∉ bs) : PrsAt w' A len T := by
  refine ⟨h.len, fun i x hx => ?_⟩
  obtain ⟨b, o, h1, h2, h3⟩ := h.at_ i x hx
  have hb' := hb (fun e => by rw [e] at hx; simp at hx) _ h1
  exact ⟨b, o, h1, (hk.cell (lt_of_cell h2) hb').trans h2, (hk.cell (lt_of_cell h3) hb').trans h3⟩
theorem PrsAt.blt {w : World} {A : Option Addr} {len : Nat} {T : Tab} (h : PrsAt w A len T) (hT : T ≠ []) : ∀ a, A = some a → a.block < w.heap.size := by
  intro a ha
  match T, hT, h with
  | x :: r, _, h =>
    obtain ⟨b, o, h1, h2, _⟩ := h.at_ 0 x rfl
    rw [ha] at h1
    injection h1 with h1
    subst h1
    exact lt_of_cell h2

theorem torn_len {w : World} {k : Dk} (h : DiskAt w k) (keep torn : Int) : (tornOf k.dat keep torn).length = k.S.length := by
  have hf := wdat_fit h
  have hW : k.dat.W = wdat k.W := rfl
  have hL : k.dat.L.length = k.S.length := h.len
  have hl : ∀ K, (layAll k.dat.L (k.dat.W.take K)).length = k.S.length := fun K => length_layAll hL (fun x hx => hf x (by rw [← hW]; exact List.mem_of_mem_take hx))
  unfold tornOf
  split
  · exact hl _
  · rename_i x hx
    have hm : x ∈ wdat k.W := by rw [← hW]; exact List.mem_of_getElem? hx
    have := hf x hm
    rw [length_laid (by rw [hl, List.length_take]; omega), hl]

theorem calm_wl {k : Dk} {at_ turn : Nat} {T : Tab} (hc : Calm k.dat at_ turn T) : k.W.length ≤ 1 := by
  have h1 := hc.w
  have h9 : k.dat.W.length = k.W.length := by simp [Dk.dat]
  rw [h1] at h9
  simp at h9
  omega

section
variable {w0 wr w' w1 : World} {size gB j : Nat} {s s' : St} {k k' : Dk} {T T' U : Tab} {GA OA A' : Option Addr} {gn gc on oc n' c' : Nat} {l : List Chg} {n : Int}

/-- Behind a Put: what stays apart. -/
theorem Put.stays {k0 : Dk} (hp : Put wr s k T l n s' k' T' w') {b : Nat} (hb : b ∉ k.all ∧ b ≠ s.p) (hl : b < wr.heap.size) : b ∉ k'.all ∧ b ≠ s'.p := by
  refine ⟨fun hm => ?_, by rw [hp.p]; exact hb.2⟩
  rcases hp.all b hm with h | h
  · exact hb.1 h
  · omega

theorem wlen_of {d : Dat} {k : Dk} (h : k.dat = d) : k.W.length = d.W.length := dat_len h

end

end Go.Proofs.YthgpjlmdllihmaaGreat
