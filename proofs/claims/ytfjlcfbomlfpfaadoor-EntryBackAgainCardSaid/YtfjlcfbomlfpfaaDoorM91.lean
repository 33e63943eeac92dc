/- Texts of one proof, laid together: X6 X7. -/
import Derived.Test.YtfjlcfbomlfpfaaDoorM90
import Derived.Test.YtfjlcfbomlfpfaaDoorM83
import Derived.Test.YtfjlcfbomlfpfaaDoorN3
import Derived.BigQuiet
import Derived.Test.YtfjlcfbomlfpfaaDoorM89
import Derived.Test.YtfjlcfbomlfpfaaDoorN13
/- entry: the document's Get, values; walked. -/
namespace Go.Proofs.YtfjlcfbomlfpfaaDoor
open Go.RowKit Go.Shelf
set_option linter.unusedVariables false
set_option linter.unusedSimpArgs false
set_option maxRecDepth 100000

theorem StrQ.of {w wr : World} {A : Option Addr} {m c : Nat} {xs : List Txt} (h : StrsIn wr A m xs) (h1 : m ≤ c) (h2 : c ≤ 9223372036854775807) (hk : Keeps [] w wr) : StrQ xs w (.returned (.slice A m c)) wr := by
  obtain rfl := h.1
  exact ⟨A, c, rfl, h, h1, h2, hk⟩
end Go.Proofs.YtfjlcfbomlfpfaaDoor
/- entry: the document's Order; walked. -/
namespace Go.Proofs.YtfjlcfbomlfpfaaDoor
open Go.RowKit Go.Shelf
set_option linter.unusedVariables false
set_option linter.unusedSimpArgs false
set_option maxRecDepth 100000

theorem preO_take {e : List Att} {j : Nat} {a : Att} (h : e[j]? = some a) : preO (e.take (j + 1)) = stepO (preO (e.take j)) a := by
  rw [List.take_add_one, h]
  exact preO_snoc _ _
theorem preO_len : ∀ l, (preO l).1.length ≤ l.length := by
  refine snoc_ind (by simp [preO]) (fun l a ih => ?_)
  rw [preO_snoc]
  have := setR_len (preO l).1 (smallL a.1) (a.2.foldl withR (cont2 (preO l).1 (smallL a.1)))
  unfold stepO
  simp only [List.length_append, List.length_singleton]
  omega
theorem withs_len (vs : List Txt) : ∀ l, (vs.foldl withR l).length ≤ l.length + vs.length := by
  induction vs with
  | nil => intro l; simp
  | cons s r ih =>
    intro l
    have h1 := ih (withR l s)
    have h2 := withR_len l s
    simp only [List.foldl_cons, List.length_cons]
    omega
theorem withs_take {vs : List Txt} {q : Nat} {s : Txt} (h : vs[q]? = some s) (l : List Txt) : (vs.take (q + 1)).foldl withR l = withR ((vs.take q).foldl withR l) s := by
  rw [List.take_add_one, h, List.foldl_append]
  rfl
theorem preO_vals {l : List At7} (hf : Few7 100 l) (hs : ∀ a ∈ l, a.vs.length = a.n) (j : Nat) (k : Txt) : (cont2 (preO ((ents l).take j)).1 k).length ≤ 10000 := by
  rw [(preO_is _).2.1 k]
  have h1 := ordS_len (gath ((ents l).take j) k)
  have h2 := gath_len (e := (ents l).take j) (m := 100) (fun a ha => by
    obtain ⟨x, hx, rfl⟩ := List.mem_map.1 (List.mem_of_mem_take ha)
    show x.vs.length ≤ 100
    rw [hs x hx]
    exact hf.2 x hx) k
  have h3 : ((ents l).take j).length ≤ 100 := by
    rw [List.length_take, ents_len]
    have := hf.1
    omega
  have h4 : ((ents l).take j).length * 100 ≤ 100 * 100 := Nat.mul_le_mul_right _ h3
  omega
end Go.Proofs.YtfjlcfbomlfpfaaDoor
