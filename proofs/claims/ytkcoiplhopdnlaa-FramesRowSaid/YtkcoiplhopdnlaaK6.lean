/- Rows of bytes: few, joined. -/
import Derived.Test.YtkcoiplhopdnlaaK5
namespace Go.Proofs.Ytkcoiplhopdnlaa
open Go.RowKit
set_option linter.unusedVariables false

structure Part where
  A : Option Addr
  c : Nat
  bs : List UInt8

structure PartsAt (w : World) (A : Option Addr) (len : Nat) (l : List Part) : Prop where
  len : l.length = len
  at_ : ∀ i x, l[i]? = some x → ∃ b o, A = some ⟨b, o, none⟩ ∧ w.cell? ⟨b, o + i, none⟩ = some (.slice x.A x.bs.length x.c) ∧ BytesAt w (.slice x.A x.bs.length x.c) x.bs ∧ x.bs.length ≤ 9223372036854775807

theorem PartsAt.keep {w w' : World} {A : Option Addr} {len : Nat} {l : List Part} (h : PartsAt w A len l) (hk : Keeps [] w w') : PartsAt w' A len l := by
  refine ⟨h.len, fun i x hx => ?_⟩
  obtain ⟨b, o, h1, h2, h3, h4⟩ := h.at_ i x hx
  exact ⟨b, o, h1, (hk.cell (lt_of_cell h2) (by simp)).trans h2, h3.grow hk, h4⟩

def total (l : List Part) : Nat := (l.map fun x => x.bs.length).sum

theorem total_snoc (l : List Part) (x : Part) : total (l ++ [x]) = total l + x.bs.length := by simp [total]

end Go.Proofs.Ytkcoiplhopdnlaa
