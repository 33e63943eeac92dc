/- Texts of one proof, laid together: U62. -/
import Derived.Test.YthgpjlmdllihmaaGreatM46
import Derived.Test.YthgpjlmdllihmaaGreatRows
/- StoreCopies, whatever came in that is not too great; what a row's bulk says of a slice's length. -/
namespace Go.Proofs.YthgpjlmdllihmaaGreat
open Go.RowKit Go.ChangeShapes Go.WideShapes Go.Deep Go.Shelf Go.Maps
set_option linter.unusedVariables false

theorem bulk_one {H : Type} (d : DataW H) : 1 ≤ Rows.uptoBulk d := by
  cases d with
  | lit l => cases l <;> simp [Rows.uptoBulk]
  | nil => simp [Rows.uptoBulk]
  | ptr d => simp [Rows.uptoBulk]
  | slice elems spare => simp [Rows.uptoBulk]
  | agg parts => simp [Rows.uptoBulk]
  | iface t d => simp [Rows.uptoBulk]
  | map entries => simp [Rows.uptoBulk]
  | held h => simp [Rows.uptoBulk]
theorem bulk_len {H : Type} (l : List (DataW H)) : l.length ≤ Rows.uptoBulkAll l := by
  induction l with
  | nil => simp [Rows.uptoBulkAll]
  | cons x r ih => have := bulk_one x; simp only [Rows.uptoBulkAll, List.length_cons]; omega

theorem bulk_slice {H : Type} {enc : TypeId × Value → H} {W : World} {base fuel : Nat} {sp : Nat → Bool} {hd : Bool} {t e : TypeId} {A : Option Addr} {n c : Nat} {d : DataW H} {p : List MemPlace} (ht : Tryz.prog.underlying t = some (.slice e)) (h : DataW.trod enc Tryz.prog W base sp hd fuel t [.slice A n c] = some (d, p)) : n ≤ Rows.uptoBulk d := by
  rcases open_slice ht h with ⟨hcs, hx⟩ | ⟨a, len, cap, m, k, D, Pl, hcs, _, hl, hm, hmm, hx, _⟩
  · injection hcs with hcs _
    injection hcs with _ hn _
    subst hn
    omega
  · injection hcs with hcs _
    injection hcs with _ hn _
    injection hx with hx _
    subst hn
    subst hx
    have h1 := bulk_len ((List.range n).map D)
    simp only [List.length_map, List.length_range] at h1
    simp only [Rows.uptoBulk]
    omega

theorem storecopies_any (size : Int) (A B : Option Addr) (ca cb : Nat) (la lb : List Act4) (w : World) (h1 : I64 size) (hA : Acts4 w A la.length la) (hB : Acts4 w B lb.length lb) (hroom : la.length + lb.length ≤ 1048576) :
    Calls Tryz.prog 4 #[.int .i64 size, .slice A la.length ca, .slice B lb.length cb] w fun e w' => e = .returned (.bool true) ∧ Below w.heap.size w w' :=
  (copies_any size A B la.length lb.length ca cb la lb w h1 hA hB (by omega)).mono fun e w' ⟨he, hk⟩ => ⟨he, hk.below (Nat.le_refl _) (by simp)⟩

end Go.Proofs.YthgpjlmdllihmaaGreat
