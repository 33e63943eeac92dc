/- frames: All, made. -/
import Derived.Test.YtkcoiplhopdnlaaF11
namespace Go.Proofs.Ytkcoiplhopdnlaa
open Go.RowKit Go.Shelf
set_option linter.unusedVariables false
attribute [local go_sem] Oper.semAt_some

theorem all_is (A : Option Addr) (n c : Nat) (xs : List UInt8) (w : World) (hn : xs.length = n) (hb : BytesAt w (.slice A n c) xs) (hm : n ≤ 140737488351232) : Calls Try.prog 10 #[.slice A n c] w fun e w' =>
    ∃ g B d, e = .returned (.func (.func 20) #[] #[.pointer (some ⟨g, 0, none⟩)]) ∧ RestD g B n d xs w' ∧ w.heap.size ≤ g ∧ (∀ b, (Value.slice B n d).ownBlock = some b → w.heap.size ≤ b) ∧ Keeps [] w w' := by
  have hb' : BytesAt w (.slice A xs.length c) xs := by rw [hn]; exact hb
  have HC := Lib.hid (clone_any (.slice A xs.length c) xs w (by omega) hb')
  rw [hn] at HC
  have HN := Lib.hid hn
  clear hb hb' hn
  go_enter Try.func10, Try.ntmps10
  go_wp2_with fail
  refine HC.out.mono ?_
  rintro e w1 ⟨B, d, rfl, ho, hb1⟩
  obtain ⟨hbb, hown⟩ := own_bytes ho HN.out
  have HBB := Lib.hid hbb
  have HOW := Lib.hid hown
  have HK := Lib.hid (Keeps.of_below (bs := []) hb1)
  clear ho hb1 hbb hown
  go_wp2_with fail
  go_ret
  exact ⟨_, _, _, rfl, ⟨by rw [World.cell?_alloc_new]; rfl, HBB.out.grow ((Keeps.refl [] _).alloc _)⟩, HK.out.size, HOW.out, HK.out.alloc _⟩

end Go.Proofs.Ytkcoiplhopdnlaa
