/- Texts of one proof, laid together: F50. -/
import Derived.Test.YtoggddoeanfjeaaGreatDoorMC7
import Derived.Test.YtoggddoeanfjeaaGreatDoorMC8
import Derived.BigQuiet
/- filter: filters in literals. -/
namespace Go.Proofs.YtoggddoeanfjeaaGreatDoor
open Go.RowKit Go.Shelf
set_option linter.unusedVariables false
set_option linter.unusedSimpArgs false
set_option maxRecDepth 100000

theorem filAt_plain (w : World) (k : Int) (s v : Txt) (hk : -9223372036854775808 ≤ k ∧ k ≤ 9223372036854775807) (hs : s.length ≤ 9223372036854775807) (hv : v.length ≤ 9223372036854775807) : FilAt w (.mk k [] s v) ⟨k, none, 0, 0, s, v⟩ :=
  ⟨rfl, rfl, rfl, hk.1, hk.2, hs, hv, rfl, Nat.le_refl _, Nat.zero_le _, trivial⟩
theorem subOk_plain {w : World} {A : Option Addr} {n c : Nat} {l : List At7} (h : EntIn w A n l) (hf : LightE8 l) : SubOk w ⟨A, n, c, none, 0, 0⟩ l [] :=
  ⟨h, hf.few 100000 (by omega), ⟨rfl, by simp, fun h => by cases h⟩, ⟨by simp, by simp⟩⟩
/-- A filter with some in it and no texts. -/
theorem filAt_of (w : World) (k : Int) (l : List FV) (B : Option Addr) (n c : Nat) (hk : -9223372036854775808 ≤ k ∧ k ≤ 9223372036854775807) (hl : l.length = n) (hn : n ≤ c) (hc : c ≤ 9223372036854775807) (h : FilsAt w B 0 l) : FilAt w (.mk k l [] []) ⟨k, B, n, c, [], []⟩ :=
  ⟨rfl, rfl, rfl, hk.1, hk.2, Nat.zero_le _, Nat.zero_le _, hl, hn, hc, h⟩
theorem fils_lit (w : World) (l : List FV) (hs : List FH) (n : Nat) (cs : Array Value) (hc : cs = (headsF hs).toArray) (hn : l.length = n) (hh : hs.length = n) (hm : n ≤ 1000) (hf : ∀ (i : Nat) (t : FV) (h : FH), l[i]? = some t → hs[i]? = some h → FilAt w t h) : FilsAt (w.alloc (.cells cs 25)) (some ⟨w.heap.size, 0, none⟩) 0 l := by
  subst hc
  have h := World.ownsRow_lit (base := w.heap.size) (e := 25) (size := 4) w (headsF hs).toArray n (Nat.le_refl _) (by unfold maxLen; omega) (by simp [headsF_len, hh])
  exact fils_own (hs := hs) (by simpa using h) hh hn (fun i t h ht hh' => FilAt.grow ((Keeps.refl [] w).alloc _) t h (hf i t h ht hh'))
theorem fils_take {w : World} {B : Option Addr} {i : Nat} {l : List FV} (h : FilsAt w B i l) (n : Nat) : FilsAt w B i (l.take n) := fils_of (fun j t ht => h.at_ j t (by
  rw [List.getElem?_take] at ht
  split at ht
  · exact ht
  · cases ht))
theorem fils_drop {w : World} {b o : Nat} {l : List FV} (h : FilsAt w (some ⟨b, o, none⟩) 0 l) (n : Nat) : FilsAt w (some ⟨b, o + n * 4, none⟩) 0 (l.drop n) := fils_of (fun j t ht => by
  rw [List.getElem?_drop] at ht
  obtain ⟨b9, o9, h9, e, h1, h2⟩ := h.at_ (n + j) t ht
  cases e
  refine ⟨_, _, h9, rfl, fun q u hu => ?_, h2⟩
  rw [← h1 q u hu, show o + n * 4 + (0 + j) * 4 + q = o + (0 + (n + j)) * 4 + q by omega])
theorem slice1_to (g : Nat) (W : World) : (Instr.slice 23 (.slice (some ⟨g, 0, none⟩) 2 2) none (some (.int .i64 1)) none).run Tryz.prog W = .ok (.slice (some ⟨g, 0, none⟩) 1 2) W := by kernel_rfl
theorem slice1_from (g : Nat) (W : World) : (Instr.slice 23 (.slice (some ⟨g, 0, none⟩) 2 2) (some (.int .i64 1)) none none).run Tryz.prog W = .ok (.slice (some ⟨g, 4, none⟩) 1 1) W := by kernel_rfl
end Go.Proofs.YtoggddoeanfjeaaGreatDoor
