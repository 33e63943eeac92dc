/- Texts of one proof, laid together: U10. -/
import Derived.Shelf.SlIter.Nil
import Derived.Shelf.SortM.Plain
import Derived.Shelf.SortM.SortNone
import Derived.Test.YthgpjlmdllihmaaGreatM14
/- The keys of a table, in order: slices.Sorted(maps.Keys(m)), by the shelf's contracts. -/
namespace Go.Proofs.YthgpjlmdllihmaaGreat
open Go.RowKit Go.Maps Go.Sort Go.Shelf
set_option linter.unusedVariables false
set_option linter.unusedSimpArgs false
set_option maxRecDepth 100000

def mkeys_ren : Go.Shelf.Ren := ⟨fun | 7 => 48 | 10 => 69 | n => n, fun | 23 => 59 | 26 => 9 | 3 => 73 | 28 => 101 | 0 => 0 | 27 => 100 | 33 => 118 | 4 => 4 | n => n, fun n => n⟩

theorem mkeys_lays : SlLaysZ.n7 Tryz.prog mkeys_ren where
  mixed := by kernel_rfl
  f7 := ⟨Tryz.f48.name, of_decide_eq_true (by kernel_rfl), Tryz.func48.trans (congrArg some (by kernel_rfl))⟩
  f10 := ⟨Tryz.f69.name, of_decide_eq_true (by kernel_rfl), Tryz.func69.trans (congrArg some (by kernel_rfl))⟩
  t0 := Tryz.underlying0
  a0 := Tryz.isAgg0
  z0 := Tryz.sizeOf0
  v0 := Tryz.zeroValue0
  t4 := Tryz.underlying4
  a4 := Tryz.isAgg4
  z4 := Tryz.sizeOf4
  v4 := Tryz.zeroValue4
  t23 := Tryz.underlying59
  a23 := Tryz.isAgg59
  z23 := Tryz.sizeOf59
  v23 := Tryz.zeroValue59
  t26 := Tryz.underlying9
  a26 := Tryz.isAgg9
  z26 := Tryz.sizeOf9
  v26 := Tryz.zeroValue9
  t27 := Tryz.underlying100
  a27 := Tryz.isAgg100
  z27 := Tryz.sizeOf100
  v27 := Tryz.zeroValue100
  t28 := Tryz.underlying101
  a28 := Tryz.isAgg101
  z28 := Tryz.sizeOf101
  v28 := Tryz.zeroValue101
  t33 := Tryz.underlying118
  a33 := Tryz.isAgg118
  z33 := Tryz.sizeOf118
  v33 := Tryz.zeroValue118

def msorted_ren : Go.Shelf.Ren := ⟨fun | 6 => 47 | 8 => 67 | 9 => 68 | 11 => 82 | 13 => 84 | 12 => 83 | 23 => 103 | 24 => 104 | 14 => 94 | 15 => 95 | 16 => 96 | 17 => 97 | 18 => 98 | 19 => 99 | 20 => 100 | 21 => 101 | 22 => 102 | 25 => 114 | 26 => 115 | 27 => 116 | 28 => 117 | 29 => 118 | 30 => 119 | 31 => 127 | n => n, fun | 26 => 9 | 28 => 101 | 24 => 70 | 0 => 0 | 3 => 3 | 37 => 140 | 48 => 58 | 50 => 161 | 4 => 4 | 40 => 152 | 39 => 151 | 45 => 157 | 5 => 5 | 9 => 9 | 51 => 163 | 55 => 167 | 57 => 173 | 58 => 174 | 33 => 118 | n => n, fun n => n⟩

theorem msorted_lays : SlLaysZ.n6 Tryz.prog msorted_ren where
  mixed := by kernel_rfl
  f6 := ⟨Tryz.f47.name, of_decide_eq_true (by kernel_rfl), Tryz.func47.trans (congrArg some (by kernel_rfl))⟩
  f8 := ⟨Tryz.f67.name, of_decide_eq_true (by kernel_rfl), Tryz.func67.trans (congrArg some (by kernel_rfl))⟩
  f11 := ⟨Tryz.f82.name, of_decide_eq_true (by kernel_rfl), Tryz.func82.trans (congrArg some (by kernel_rfl))⟩
  t0 := Tryz.underlying0
  a0 := Tryz.isAgg0
  z0 := Tryz.sizeOf0
  v0 := Tryz.zeroValue0
  t24 := Tryz.underlying70
  a24 := Tryz.isAgg70
  z24 := Tryz.sizeOf70
  v24 := Tryz.zeroValue70
  t26 := Tryz.underlying9
  a26 := Tryz.isAgg9
  z26 := Tryz.sizeOf9
  v26 := Tryz.zeroValue9
  t28 := Tryz.underlying101
  a28 := Tryz.isAgg101
  z28 := Tryz.sizeOf101
  v28 := Tryz.zeroValue101
  i26 := by kernel_rfl

def msort_ren : Go.Shelf.Ren := ⟨fun | 6 => 68 | 8 => 84 | 9 => 83 | 19 => 103 | 20 => 104 | 21 => 94 | 22 => 95 | 23 => 96 | 24 => 97 | 25 => 98 | 26 => 99 | 27 => 100 | 28 => 101 | 29 => 102 | 36 => 114 | 31 => 115 | 32 => 116 | 37 => 117 | 38 => 118 | 39 => 119 | 41 => 127 | n => n, fun | 27 => 70 | 29 => 9 | 3 => 3 | 32 => 140 | 26 => 70 | 0 => 0 | 44 => 58 | 46 => 161 | 4 => 4 | 36 => 152 | 35 => 151 | 41 => 157 | 5 => 5 | 9 => 9 | 53 => 163 | 57 => 167 | 63 => 173 | 64 => 174 | n => n, fun n => n⟩

theorem msort_lays : SlLaysM.n6 Tryz.prog msort_ren where
  mixed := by kernel_rfl
  f6 := ⟨Tryz.f68.name, of_decide_eq_true (by kernel_rfl), Tryz.func68.trans (congrArg some (by kernel_rfl))⟩
  f8 := Tryz.func84.trans (congrArg some (by kernel_rfl))
  f9 := ⟨Tryz.f83.name, of_decide_eq_true (by kernel_rfl), Tryz.func83.trans (congrArg some (by kernel_rfl))⟩
  f19 := Tryz.func103.trans (congrArg some (by kernel_rfl))
  f20 := Tryz.func104.trans (congrArg some (by kernel_rfl))
  f21 := ⟨Tryz.f94.name, of_decide_eq_true (by kernel_rfl), Tryz.func94.trans (congrArg some (by kernel_rfl))⟩
  f22 := ⟨Tryz.f95.name, of_decide_eq_true (by kernel_rfl), Tryz.func95.trans (congrArg some (by kernel_rfl))⟩
  f23 := ⟨Tryz.f96.name, of_decide_eq_true (by kernel_rfl), Tryz.func96.trans (congrArg some (by kernel_rfl))⟩
  f24 := ⟨Tryz.f97.name, of_decide_eq_true (by kernel_rfl), Tryz.func97.trans (congrArg some (by kernel_rfl))⟩
  f25 := ⟨Tryz.f98.name, of_decide_eq_true (by kernel_rfl), Tryz.func98.trans (congrArg some (by kernel_rfl))⟩
  f26 := ⟨Tryz.f99.name, of_decide_eq_true (by kernel_rfl), Tryz.func99.trans (congrArg some (by kernel_rfl))⟩
  f27 := ⟨Tryz.f100.name, of_decide_eq_true (by kernel_rfl), Tryz.func100.trans (congrArg some (by kernel_rfl))⟩
  f28 := ⟨Tryz.f101.name, of_decide_eq_true (by kernel_rfl), Tryz.func101.trans (congrArg some (by kernel_rfl))⟩
  f29 := ⟨Tryz.f102.name, of_decide_eq_true (by kernel_rfl), Tryz.func102.trans (congrArg some (by kernel_rfl))⟩
  f31 := Tryz.func115.trans (congrArg some (by kernel_rfl))
  f32 := Tryz.func116.trans (congrArg some (by kernel_rfl))
  f36 := ⟨Tryz.f114.name, of_decide_eq_true (by kernel_rfl), Tryz.func114.trans (congrArg some (by kernel_rfl))⟩
  f37 := ⟨Tryz.f117.name, of_decide_eq_true (by kernel_rfl), Tryz.func117.trans (congrArg some (by kernel_rfl))⟩
  f38 := ⟨Tryz.f118.name, of_decide_eq_true (by kernel_rfl), Tryz.func118.trans (congrArg some (by kernel_rfl))⟩
  f39 := ⟨Tryz.f119.name, of_decide_eq_true (by kernel_rfl), Tryz.func119.trans (congrArg some (by kernel_rfl))⟩
  f41 := ⟨Tryz.f127.name, of_decide_eq_true (by kernel_rfl), Tryz.func127.trans (congrArg some (by kernel_rfl))⟩
  t0 := Tryz.underlying0
  a0 := Tryz.isAgg0
  z0 := Tryz.sizeOf0
  v0 := Tryz.zeroValue0
  t3 := Tryz.underlying3
  a3 := Tryz.isAgg3
  z3 := Tryz.sizeOf3
  v3 := Tryz.zeroValue3
  t4 := Tryz.underlying4
  a4 := Tryz.isAgg4
  z4 := Tryz.sizeOf4
  v4 := Tryz.zeroValue4
  t5 := Tryz.underlying5
  a5 := Tryz.isAgg5
  z5 := Tryz.sizeOf5
  v5 := Tryz.zeroValue5
  t9 := Tryz.underlying9
  a9 := Tryz.isAgg9
  z9 := Tryz.sizeOf9
  v9 := Tryz.zeroValue9
  t26 := Tryz.underlying70
  a26 := Tryz.isAgg70
  z26 := Tryz.sizeOf70
  v26 := Tryz.zeroValue70
  t27 := Tryz.underlying70
  a27 := Tryz.isAgg70
  z27 := Tryz.sizeOf70
  v27 := Tryz.zeroValue70
  t29 := Tryz.underlying9
  a29 := Tryz.isAgg9
  z29 := Tryz.sizeOf9
  v29 := Tryz.zeroValue9
  t32 := Tryz.underlying140
  a32 := Tryz.isAgg140
  z32 := Tryz.sizeOf140
  v32 := Tryz.zeroValue140
  t35 := Tryz.underlying151
  a35 := Tryz.isAgg151
  z35 := Tryz.sizeOf151
  v35 := Tryz.zeroValue151
  t36 := Tryz.underlying152
  a36 := Tryz.isAgg152
  z36 := Tryz.sizeOf152
  v36 := Tryz.zeroValue152
  t41 := Tryz.underlying157
  a41 := Tryz.isAgg157
  z41 := Tryz.sizeOf157
  v41 := Tryz.zeroValue157
  t44 := Tryz.underlying58
  a44 := Tryz.isAgg58
  z44 := Tryz.sizeOf58
  v44 := Tryz.zeroValue58
  t46 := Tryz.underlying161
  a46 := Tryz.isAgg161
  z46 := Tryz.sizeOf161
  v46 := Tryz.zeroValue161
  t53 := Tryz.underlying163
  a53 := Tryz.isAgg163
  z53 := Tryz.sizeOf163
  v53 := Tryz.zeroValue163
  t57 := Tryz.underlying167
  a57 := Tryz.isAgg167
  z57 := Tryz.sizeOf167
  v57 := Tryz.zeroValue167
  t63 := Tryz.underlying173
  a63 := Tryz.isAgg173
  z63 := Tryz.sizeOf173
  v63 := Tryz.zeroValue173
  t64 := Tryz.underlying174
  a64 := Tryz.isAgg174
  z64 := Tryz.sizeOf174
  v64 := Tryz.zeroValue174

theorem msorts (m : Nat) : AnyZ.SortsIn Tryz.prog msorted_ren Fence.wide m :=
  ⟨fun blk off cap ss W hH hblk hsz => callsIn_wide.2 (AnyM.slices_Sort_string msort_lays blk off cap ss W hH hblk hsz), fun p cap W => callsIn_wide.2 (AnyM.slices_Sort_string_none msort_lays p cap W)⟩

theorem bytes_le : ∀ a b : List UInt8, bytesBefore a b = true → leB a b = true
  | [], b, _ => by simp
  | a :: r, [], h => by simp [bytesBefore] at h
  | a :: r, b :: s, h => by
    simp only [bytesBefore, Bool.or_eq_true, Bool.and_eq_true, decide_eq_true_eq, beq_iff_eq] at h
    have h2 : ¬ (b :: s < a :: r) := by
      rw [List.cons_lt_cons_iff]
      rcases h with h | ⟨h, h3⟩
      · rintro (h4 | ⟨h4, _⟩)
        · exact absurd (UInt8.lt_trans h h4) (UInt8.lt_irrefl _)
        · rw [h4] at h; exact UInt8.lt_irrefl _ h
      · subst h
        rintro (h4 | ⟨_, h4⟩)
        · exact UInt8.lt_irrefl _ h4
        · have := bytes_le r s h3
          simp only [leB, decide_eq_true_eq] at this
          exact this h4
    simpa [leB] using h2

theorem keys_datT (T : Tab) : strKeys (datT T) = T.map fun p => p.1 := by
  simp only [strKeys, datT, List.map_map]
  rfl

theorem keys_sorted {T : Tab} {ss : List (List UInt8)} (hr : Rising T) (h : ss.Perm (strKeys (datT T))) : ss.mergeSort leB = T.map fun p => p.1 := by
  rw [mergeSort_of_perm h, keys_datT]
  refine List.mergeSort_of_pairwise ?_
  rw [List.pairwise_map]
  exact hr.imp fun {p q} hpq => bytes_le _ _ hpq

/-- inOrder: the keys, rising, in new memory. -/
theorem inorder_is (m : Option Nat) (T : Tab) (w : World) (h : TabV w m T) (hT : T.length ≤ 100000) : Calls Tryz.prog 28 #[.map m] w fun e w' => ∃ A c, e = .returned (.slice A T.length c) ∧ w'.ownsRow w.heap.size 9 1 (.slice A T.length c) T.length (T.map fun p => encStr p.1) ∧ Keeps [] w w' := by
  have HK := Lib.hid (callsIn_wide.1 (AnyZ.keys_in mkeys_lays Fence.wide 5 trivial rfl m w))
  have HS : Hid (Calls Tryz.prog 47 #[.func (.func 69) #[] #[.pointer (some ⟨w.heap.size, 0, none⟩)]] (w.alloc (.cells #[.map m] 59)) fun e w' => ∃ (v : Value), e = .returned v ∧ w'.ownsRow w.heap.size 9 1 v T.length (T.map fun p => encStr p.1) ∧ Below (w.alloc (.cells #[.map m] 59)).heap.size (w.alloc (.cells #[.map m] 59)) w') := by
    cases m with
    | none =>
      have hTn : T = [] := h
      subst hTn
      have hseq : SeqGives Fence.wide 2 Tryz.prog 69 #[.pointer (some ⟨w.heap.size, 0, none⟩)] encStr (fun ss : List (List UInt8) => ss = []) 0 (w.alloc (.cells #[.map none] 59)) :=
        AnyZ.keys_gives_nil (ρ := mkeys_ren) { mkeys_lays with } Fence.wide _ trivial rfl w.heap.size _ (by simp) (by simp)
      refine (callsIn_wide.1 (AnyZ.sorted_in msorted_lays Fence.wide 5 trivial trivial trivial trivial rfl (by omega) (msorts _) (enters_of Tryz.func68 (by kernel_rfl) rfl) 69 #[.pointer (some ⟨w.heap.size, 0, none⟩)] trivial (enters_of Tryz.func69 (by kernel_rfl) rfl) _ 0 (Nat.zero_le _) (by omega) _ hseq)).mono ?_
      rintro e w' ⟨v, ss, rfl, rfl, h1, _, h2⟩
      exact ⟨v, rfl, ownsRow_base_a (by have h9 : w'.ownsRow _ 9 1 v _ _ := h1; simpa using h9) (by simp), h2⟩
    | some b =>
      have hown : MapAt w b T := h
      have hbl := hown.lt
      have hr := hown.rising
      have hseq : SeqGives Fence.wide 2 Tryz.prog 69 #[.pointer (some ⟨w.heap.size, 0, none⟩)] encStr (fun ss => ss.Perm (strKeys (datT T))) (Maps.size (datT T)) (w.alloc (.cells #[.map (some b)] 59)) :=
        AnyZ.keys_gives (ρ := mkeys_ren) { mkeys_lays with } Fence.wide _ trivial rfl (by omega) w.heap.size b T.length (datT T) _ (by simp) (by simp) (hown.keep ((Keeps.refl [] w).alloc _) (by simp))
      refine (callsIn_wide.1 (AnyZ.sorted_in msorted_lays Fence.wide 5 trivial trivial trivial trivial rfl (by omega) (msorts _) (enters_of Tryz.func68 (by kernel_rfl) rfl) 69 #[.pointer (some ⟨w.heap.size, 0, none⟩)] trivial (enters_of Tryz.func69 (by kernel_rfl) rfl) _ _ (by rw [size_datT]; unfold maxLen; omega) (by rw [size_datT]; omega) _ hseq)).mono ?_
      rintro e w' ⟨v, ss, rfl, hp, h1, _, h2⟩
      have hl : ss.length = T.length := by rw [hp.length_eq, keys_datT, List.length_map]
      rw [keys_sorted hr hp, hl, List.map_map] at h1
      exact ⟨v, rfl, ownsRow_base_a h1 (by simp), h2⟩
  clear h
  go_enter Tryz.func28, Tryz.ntmps28
  go_wp2_with (first
    | (go_at_call 48; refine HK.out.mono ?_; rintro e w1 ⟨rfl, rfl⟩)
    | (go_at_call 47; refine HS.out.mono ?_; rintro e w2 ⟨v, rfl, h1, h2⟩; have H1 := Lib.hid h1; have H2 := Lib.hid h2; clear h1 h2))
  go_ret
  obtain ⟨A, c, rfl⟩ := own_slice H1.out
  exact ⟨A, c, rfl, H1.out, ((Keeps.refl [] w).alloc _).trans' (Keeps.of_below H2.out)⟩

end Go.Proofs.YthgpjlmdllihmaaGreat
