/- Texts of one proof, laid together: U39. -/
import Derived.Test.YtikfpkeffmbnpaaGreatM29
/- StoreNil: what is not there. -/
namespace Go.Proofs.YtikfpkeffmbnpaaGreat
open Go.RowKit Go.Shelf Go.Maps
set_option linter.unusedVariables false
set_option linter.unusedSimpArgs false
set_option maxRecDepth 100000

theorem size_zero (p : Nat) (w : World) (hc : w.cell? ⟨p, 0, none⟩ = some (.slice none 0 0)) : Calls Tryz.prog 32 #[.pointer (some ⟨p, 0, none⟩)] w fun e w' => e = .returned (.int .i64 0) ∧ w = w' := by
  go_enter Tryz.func32, Tryz.ntmps32
  go_wp2_with (go_at_call 41; refine (missing_zero _ _ hc).mono ?_; rintro e w' ⟨rfl, rfl⟩)
  go_ret
  exact ⟨rfl, rfl⟩

theorem storenil_long (k : List UInt8) (w : World) (h : 300 < k.length) (hm : k.length ≤ 9223372036854775807) : Calls Tryz.prog 7 #[.string ⟨k.toArray⟩] w fun e w' => e = .returned (.bool true) ∧ Keeps [] w w' := by
  have h3 : (300 : Int) < (k.length : Int) := by omega
  have HK := Lib.hid (known4_any w)
  go_enter Tryz.func7, Tryz.ntmps7
  go_wp2_with fail
  refine HK.out.mono ?_
  rintro e w1 ⟨rfl, hk⟩
  have HK1 := Lib.hid hk
  clear hk
  go_wp2_with fail
  go_ret
  exact ⟨rfl, HK1.out⟩

set_option maxHeartbeats 1000000 in
theorem storenil_short (k : List UInt8) (w : World) (h : ¬ 300 < k.length) : Calls Tryz.prog 7 #[.string ⟨k.toArray⟩] w fun e w' => e = .returned (.bool true) ∧ Keeps [] w w' := by
  have h3 : ¬ (300 : Int) < (k.length : Int) := by omega
  have nn : ∀ X : World, NoSt X (.pointer none) := fun X => .inl rfl
  obtain ⟨W1, hW1⟩ : ∃ W1, w.alloc (.cells #[.int .i64 0, .int .u32 0, .map none, .pointer none, .bool false] 65) = W1 := ⟨_, rfl⟩
  have z1 : W1.heap[w.heap.size]? = some (.cells #[.int .i64 0, .int .u32 0, .map none, .pointer none, .bool false] 65 (0, 0)) := by rw [← hW1]; exact heap_alloc_new w _
  have k1 : Keeps [] w W1 := by rw [← hW1]; exact (Keeps.refl [] w).alloc _
  have zz : ∀ X, Keeps [] W1 X → NoSt X (.pointer (some ⟨w.heap.size, 0, none⟩)) := fun X hk => .inr ⟨w.heap.size, rfl, cell_of_blk (blk_keep z1 hk (by simp)) 3⟩
  have NN := Lib.hid nn
  have ZZ := Lib.hid zz
  have K1 := Lib.hid k1
  clear nn zz z1 k1
  have hsz : ∀ X : World, Calls Tryz.prog 13 #[.pointer none] X fun e w' => e = .returned (.tuple #[.pointer none, .int .i64 1]) ∧ X = w' := fun X => open_nil _ X (size_nil X)
  have HN := Lib.hid hsz
  clear hsz
  go_enter Tryz.func7, Tryz.ntmps7
  go_wp2_with fail
  refine (HN.out _).mono ?_
  rintro e w' ⟨rfl, rfl⟩
  obtain ⟨W2, hW2⟩ : ∃ W2, W1.alloc (.cells #[.slice none 0 0, .slice none 0 0, .slice none 0 0, .int .i64 0, .int .i64 0, .int .i64 0] 70) = W2 := ⟨_, rfl⟩
  have k2 : Keeps [] W1 W2 := by rw [← hW2]; exact (Keeps.refl [] W1).alloc _
  have K2 := Lib.hid k2
  have z0 : W2.cell? ⟨W1.heap.size, 0, none⟩ = some (.slice none 0 0) := by rw [← hW2, World.cell?_alloc_new]; rfl
  clear k2
  go_wp2_with fail
  refine (open_nil _ W2 (size_zero _ _ z0)).mono ?_
  rintro e w' ⟨rfl, rfl⟩
  go_wp2_with fail
  refine (get_no (NN.out _)).mono ?_
  rintro e w' ⟨rfl, rfl⟩
  go_wp2_with fail
  refine (put_no (NN.out _)).mono ?_
  rintro e w' ⟨rfl, rfl⟩
  go_wp2_with fail
  have K3 : Hid (Keeps [] W1 (W2.alloc (.cells #[sv k, .string ⟨#[]⟩, .bool false] 55))) := K2.out.alloc _
  refine (put_no (ZZ.out _ K3.out)).mono ?_
  rintro e w' ⟨rfl, rfl⟩
  go_wp2_with fail
  refine (all_no (NN.out _)).mono ?_
  rintro e w' ⟨rfl, rfl⟩
  go_wp2_with fail
  refine (weight_no (ZZ.out _ K3.out)).mono ?_
  rintro e w' ⟨rfl, rfl⟩
  go_wp2_with fail
  refine (broken_no (NN.out _)).mono ?_
  rintro e w' ⟨rfl, rfl⟩
  go_wp2_with fail
  refine (disk_no (ZZ.out _ K3.out)).mono ?_
  rintro e w' ⟨rfl, rfl⟩
  go_wp2_with fail
  refine (copy_no (NN.out _)).mono ?_
  rintro e w' ⟨rfl, rfl⟩
  go_wp2_with fail
  refine (known4_any _).mono ?_
  rintro e w4 ⟨rfl, hk⟩
  have K4 := Lib.hid (K1.out.trans' (K3.out.trans' hk))
  clear hk
  go_wp2_with fail
  go_ret
  exact ⟨rfl, K4.out⟩

theorem storenil_any (k : List UInt8) (w : World) (hm : k.length ≤ 9223372036854775807) : Calls Tryz.prog 7 #[.string ⟨k.toArray⟩] w fun e w' => e = .returned (.bool true) ∧ Below w.heap.size w w' := by
  have key : Calls Tryz.prog 7 #[.string ⟨k.toArray⟩] w fun e w' => e = .returned (.bool true) ∧ Keeps [] w w' := by
    by_cases h : 300 < k.length
    · exact storenil_long k w h hm
    · exact storenil_short k w h
  exact key.mono fun e w' ⟨he, hk⟩ => ⟨he, hk.below (Nat.le_refl _) (by simp)⟩

end Go.Proofs.YtikfpkeffmbnpaaGreat
