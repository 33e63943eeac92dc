/- Texts of one proof, laid together: U10. -/
import Derived.Shelf.SlIter.Nil
import Derived.Shelf.SortM.Plain
import Derived.Shelf.SortM.SortNone
import Derived.Test.YtikfpkeffmbnpaaGreatM14
/- The keys of a table, in order: slices.Sorted(maps.Keys(m)), by the shelf's contracts. -/
namespace Go.Proofs.YtikfpkeffmbnpaaGreat
open Go.RowKit Go.Maps Go.Sort Go.Shelf
set_option linter.unusedVariables false
set_option linter.unusedSimpArgs false
set_option maxRecDepth 100000

def mkeys_ren : Go.Shelf.Ren := ⟨fun | 7 => 64 | 10 => 81 | n => n, fun | 23 => 60 | 26 => 9 | 3 => 89 | 28 => 113 | 0 => 0 | 27 => 112 | 33 => 74 | 4 => 4 | n => n, fun n => n⟩

theorem mkeys_lays : SlLaysZ.n7 Tryz.prog mkeys_ren where
  mixed := by kernel_rfl
  f7 := ⟨Tryz.f64.name, of_decide_eq_true (by kernel_rfl), Tryz.func64.trans (congrArg some (by kernel_rfl))⟩
  f10 := ⟨Tryz.f81.name, of_decide_eq_true (by kernel_rfl), Tryz.func81.trans (congrArg some (by kernel_rfl))⟩
  t0 := Tryz.underlying0
  a0 := Tryz.isAgg0
  z0 := Tryz.sizeOf0
  v0 := Tryz.zeroValue0
  t4 := Tryz.underlying4
  a4 := Tryz.isAgg4
  z4 := Tryz.sizeOf4
  v4 := Tryz.zeroValue4
  t23 := Tryz.underlying60
  a23 := Tryz.isAgg60
  z23 := Tryz.sizeOf60
  v23 := Tryz.zeroValue60
  t26 := Tryz.underlying9
  a26 := Tryz.isAgg9
  z26 := Tryz.sizeOf9
  v26 := Tryz.zeroValue9
  t27 := Tryz.underlying112
  a27 := Tryz.isAgg112
  z27 := Tryz.sizeOf112
  v27 := Tryz.zeroValue112
  t28 := Tryz.underlying113
  a28 := Tryz.isAgg113
  z28 := Tryz.sizeOf113
  v28 := Tryz.zeroValue113
  t33 := Tryz.underlying74
  a33 := Tryz.isAgg74
  z33 := Tryz.sizeOf74
  v33 := Tryz.zeroValue74

def msorted_ren : Go.Shelf.Ren := ⟨fun | 6 => 63 | 8 => 79 | 9 => 80 | 11 => 94 | 13 => 96 | 12 => 95 | 23 => 115 | 24 => 116 | 14 => 106 | 15 => 107 | 16 => 108 | 17 => 109 | 18 => 110 | 19 => 111 | 20 => 112 | 21 => 113 | 22 => 114 | 25 => 126 | 26 => 127 | 27 => 128 | 28 => 129 | 29 => 130 | 30 => 131 | 31 => 139 | n => n, fun | 26 => 9 | 28 => 113 | 24 => 86 | 0 => 0 | 3 => 3 | 37 => 147 | 48 => 59 | 50 => 168 | 4 => 4 | 40 => 159 | 39 => 158 | 45 => 164 | 5 => 5 | 9 => 9 | 51 => 170 | 55 => 174 | 57 => 180 | 58 => 181 | 33 => 74 | n => n, fun n => n⟩

theorem msorted_lays : SlLaysZ.n6 Tryz.prog msorted_ren where
  mixed := by kernel_rfl
  f6 := ⟨Tryz.f63.name, of_decide_eq_true (by kernel_rfl), Tryz.func63.trans (congrArg some (by kernel_rfl))⟩
  f8 := ⟨Tryz.f79.name, of_decide_eq_true (by kernel_rfl), Tryz.func79.trans (congrArg some (by kernel_rfl))⟩
  f11 := ⟨Tryz.f94.name, of_decide_eq_true (by kernel_rfl), Tryz.func94.trans (congrArg some (by kernel_rfl))⟩
  t0 := Tryz.underlying0
  a0 := Tryz.isAgg0
  z0 := Tryz.sizeOf0
  v0 := Tryz.zeroValue0
  t24 := Tryz.underlying86
  a24 := Tryz.isAgg86
  z24 := Tryz.sizeOf86
  v24 := Tryz.zeroValue86
  t26 := Tryz.underlying9
  a26 := Tryz.isAgg9
  z26 := Tryz.sizeOf9
  v26 := Tryz.zeroValue9
  t28 := Tryz.underlying113
  a28 := Tryz.isAgg113
  z28 := Tryz.sizeOf113
  v28 := Tryz.zeroValue113
  i26 := by kernel_rfl

def msort_ren : Go.Shelf.Ren := ⟨fun | 6 => 80 | 8 => 96 | 9 => 95 | 19 => 115 | 20 => 116 | 21 => 106 | 22 => 107 | 23 => 108 | 24 => 109 | 25 => 110 | 26 => 111 | 27 => 112 | 28 => 113 | 29 => 114 | 36 => 126 | 31 => 127 | 32 => 128 | 37 => 129 | 38 => 130 | 39 => 131 | 41 => 139 | n => n, fun | 27 => 86 | 29 => 9 | 3 => 3 | 32 => 147 | 26 => 86 | 0 => 0 | 44 => 59 | 46 => 168 | 4 => 4 | 36 => 159 | 35 => 158 | 41 => 164 | 5 => 5 | 9 => 9 | 53 => 170 | 57 => 174 | 63 => 180 | 64 => 181 | n => n, fun n => n⟩

theorem msort_lays : SlLaysM.n6 Tryz.prog msort_ren where
  mixed := by kernel_rfl
  f6 := ⟨Tryz.f80.name, of_decide_eq_true (by kernel_rfl), Tryz.func80.trans (congrArg some (by kernel_rfl))⟩
  f8 := Tryz.func96.trans (congrArg some (by kernel_rfl))
  f9 := ⟨Tryz.f95.name, of_decide_eq_true (by kernel_rfl), Tryz.func95.trans (congrArg some (by kernel_rfl))⟩
  f19 := Tryz.func115.trans (congrArg some (by kernel_rfl))
  f20 := Tryz.func116.trans (congrArg some (by kernel_rfl))
  f21 := ⟨Tryz.f106.name, of_decide_eq_true (by kernel_rfl), Tryz.func106.trans (congrArg some (by kernel_rfl))⟩
  f22 := ⟨Tryz.f107.name, of_decide_eq_true (by kernel_rfl), Tryz.func107.trans (congrArg some (by kernel_rfl))⟩
  f23 := ⟨Tryz.f108.name, of_decide_eq_true (by kernel_rfl), Tryz.func108.trans (congrArg some (by kernel_rfl))⟩
  f24 := ⟨Tryz.f109.name, of_decide_eq_true (by kernel_rfl), Tryz.func109.trans (congrArg some (by kernel_rfl))⟩
  f25 := ⟨Tryz.f110.name, of_decide_eq_true (by kernel_rfl), Tryz.func110.trans (congrArg some (by kernel_rfl))⟩
  f26 := ⟨Tryz.f111.name, of_decide_eq_true (by kernel_rfl), Tryz.func111.trans (congrArg some (by kernel_rfl))⟩
  f27 := ⟨Tryz.f112.name, of_decide_eq_true (by kernel_rfl), Tryz.func112.trans (congrArg some (by kernel_rfl))⟩
  f28 := ⟨Tryz.f113.name, of_decide_eq_true (by kernel_rfl), Tryz.func113.trans (congrArg some (by kernel_rfl))⟩
  f29 := ⟨Tryz.f114.name, of_decide_eq_true (by kernel_rfl), Tryz.func114.trans (congrArg some (by kernel_rfl))⟩
  f31 := Tryz.func127.trans (congrArg some (by kernel_rfl))
  f32 := Tryz.func128.trans (congrArg some (by kernel_rfl))
  f36 := ⟨Tryz.f126.name, of_decide_eq_true (by kernel_rfl), Tryz.func126.trans (congrArg some (by kernel_rfl))⟩
  f37 := ⟨Tryz.f129.name, of_decide_eq_true (by kernel_rfl), Tryz.func129.trans (congrArg some (by kernel_rfl))⟩
  f38 := ⟨Tryz.f130.name, of_decide_eq_true (by kernel_rfl), Tryz.func130.trans (congrArg some (by kernel_rfl))⟩
  f39 := ⟨Tryz.f131.name, of_decide_eq_true (by kernel_rfl), Tryz.func131.trans (congrArg some (by kernel_rfl))⟩
  f41 := ⟨Tryz.f139.name, of_decide_eq_true (by kernel_rfl), Tryz.func139.trans (congrArg some (by kernel_rfl))⟩
  t0 := Tryz.underlying0
  a0 := Tryz.isAgg0
  z0 := Tryz.sizeOf0
  v0 := Tryz.zeroValue0
  t3 := Tryz.underlying3
  a3 := Tryz.isAgg3
  z3 := Tryz.sizeOf3
  v3 := Tryz.zeroValue3
  t4 := Tryz.underlying4
  a4 := Tryz.isAgg4
  z4 := Tryz.sizeOf4
  v4 := Tryz.zeroValue4
  t5 := Tryz.underlying5
  a5 := Tryz.isAgg5
  z5 := Tryz.sizeOf5
  v5 := Tryz.zeroValue5
  t9 := Tryz.underlying9
  a9 := Tryz.isAgg9
  z9 := Tryz.sizeOf9
  v9 := Tryz.zeroValue9
  t26 := Tryz.underlying86
  a26 := Tryz.isAgg86
  z26 := Tryz.sizeOf86
  v26 := Tryz.zeroValue86
  t27 := Tryz.underlying86
  a27 := Tryz.isAgg86
  z27 := Tryz.sizeOf86
  v27 := Tryz.zeroValue86
  t29 := Tryz.underlying9
  a29 := Tryz.isAgg9
  z29 := Tryz.sizeOf9
  v29 := Tryz.zeroValue9
  t32 := Tryz.underlying147
  a32 := Tryz.isAgg147
  z32 := Tryz.sizeOf147
  v32 := Tryz.zeroValue147
  t35 := Tryz.underlying158
  a35 := Tryz.isAgg158
  z35 := Tryz.sizeOf158
  v35 := Tryz.zeroValue158
  t36 := Tryz.underlying159
  a36 := Tryz.isAgg159
  z36 := Tryz.sizeOf159
  v36 := Tryz.zeroValue159
  t41 := Tryz.underlying164
  a41 := Tryz.isAgg164
  z41 := Tryz.sizeOf164
  v41 := Tryz.zeroValue164
  t44 := Tryz.underlying59
  a44 := Tryz.isAgg59
  z44 := Tryz.sizeOf59
  v44 := Tryz.zeroValue59
  t46 := Tryz.underlying168
  a46 := Tryz.isAgg168
  z46 := Tryz.sizeOf168
  v46 := Tryz.zeroValue168
  t53 := Tryz.underlying170
  a53 := Tryz.isAgg170
  z53 := Tryz.sizeOf170
  v53 := Tryz.zeroValue170
  t57 := Tryz.underlying174
  a57 := Tryz.isAgg174
  z57 := Tryz.sizeOf174
  v57 := Tryz.zeroValue174
  t63 := Tryz.underlying180
  a63 := Tryz.isAgg180
  z63 := Tryz.sizeOf180
  v63 := Tryz.zeroValue180
  t64 := Tryz.underlying181
  a64 := Tryz.isAgg181
  z64 := Tryz.sizeOf181
  v64 := Tryz.zeroValue181

theorem msorts (m : Nat) : AnyZ.SortsIn Tryz.prog msorted_ren Fence.wide m :=
  ⟨fun blk off cap ss W hH hblk hsz => callsIn_wide.2 (AnyM.slices_Sort_string msort_lays blk off cap ss W hH hblk hsz), fun p cap W => callsIn_wide.2 (AnyM.slices_Sort_string_none msort_lays p cap W)⟩

theorem bytes_le : ∀ a b : List UInt8, bytesBefore a b = true → leB a b = true
  | [], b, _ => by simp
  | a :: r, [], h => by simp [bytesBefore] at h
  | a :: r, b :: s, h => by
    simp only [bytesBefore, Bool.or_eq_true, Bool.and_eq_true, decide_eq_true_eq, beq_iff_eq] at h
    have h2 : ¬ (b :: s < a :: r) := by
      rw [List.cons_lt_cons_iff]
      rcases h with h | ⟨h, h3⟩
      · rintro (h4 | ⟨h4, _⟩)
        · exact absurd (UInt8.lt_trans h h4) (UInt8.lt_irrefl _)
        · rw [h4] at h; exact UInt8.lt_irrefl _ h
      · subst h
        rintro (h4 | ⟨_, h4⟩)
        · exact UInt8.lt_irrefl _ h4
        · have := bytes_le r s h3
          simp only [leB, decide_eq_true_eq] at this
          exact this h4
    simpa [leB] using h2

theorem keys_datT (T : Tab) : strKeys (datT T) = T.map fun p => p.1 := by
  simp only [strKeys, datT, List.map_map]
  rfl

theorem keys_sorted {T : Tab} {ss : List (List UInt8)} (hr : Rising T) (h : ss.Perm (strKeys (datT T))) : ss.mergeSort leB = T.map fun p => p.1 := by
  rw [mergeSort_of_perm h, keys_datT]
  refine List.mergeSort_of_pairwise ?_
  rw [List.pairwise_map]
  exact hr.imp fun {p q} hpq => bytes_le _ _ hpq

/-- inOrder: the keys, rising, in new memory. -/
theorem inorder_is (m : Option Nat) (T : Tab) (w : World) (h : TabV w m T) (hT : T.length ≤ 100000) : Calls Tryz.prog 44 #[.map m] w fun e w' => ∃ A c, e = .returned (.slice A T.length c) ∧ w'.ownsRow w.heap.size 9 1 (.slice A T.length c) T.length (T.map fun p => encStr p.1) ∧ Keeps [] w w' := by
  have HK := Lib.hid (callsIn_wide.1 (AnyZ.keys_in mkeys_lays Fence.wide 5 trivial rfl m w))
  have HS : Hid (Calls Tryz.prog 63 #[.func (.func 81) #[] #[.pointer (some ⟨w.heap.size, 0, none⟩)]] (w.alloc (.cells #[.map m] 60)) fun e w' => ∃ (v : Value), e = .returned v ∧ w'.ownsRow w.heap.size 9 1 v T.length (T.map fun p => encStr p.1) ∧ Below (w.alloc (.cells #[.map m] 60)).heap.size (w.alloc (.cells #[.map m] 60)) w') := by
    cases m with
    | none =>
      have hTn : T = [] := h
      subst hTn
      have hseq : SeqGives Fence.wide 2 Tryz.prog 81 #[.pointer (some ⟨w.heap.size, 0, none⟩)] encStr (fun ss : List (List UInt8) => ss = []) 0 (w.alloc (.cells #[.map none] 60)) :=
        AnyZ.keys_gives_nil (ρ := mkeys_ren) { mkeys_lays with } Fence.wide _ trivial rfl w.heap.size _ (by simp) (by simp)
      refine (callsIn_wide.1 (AnyZ.sorted_in msorted_lays Fence.wide 5 trivial trivial trivial trivial rfl (by omega) (msorts _) (enters_of Tryz.func80 (by kernel_rfl) rfl) 81 #[.pointer (some ⟨w.heap.size, 0, none⟩)] trivial (enters_of Tryz.func81 (by kernel_rfl) rfl) _ 0 (Nat.zero_le _) (by omega) _ hseq)).mono ?_
      rintro e w' ⟨v, ss, rfl, rfl, h1, _, h2⟩
      exact ⟨v, rfl, ownsRow_base_a (by have h9 : w'.ownsRow _ 9 1 v _ _ := h1; simpa using h9) (by simp), h2⟩
    | some b =>
      have hown : MapAt w b T := h
      have hbl := hown.lt
      have hr := hown.rising
      have hseq : SeqGives Fence.wide 2 Tryz.prog 81 #[.pointer (some ⟨w.heap.size, 0, none⟩)] encStr (fun ss => ss.Perm (strKeys (datT T))) (Maps.size (datT T)) (w.alloc (.cells #[.map (some b)] 60)) :=
        AnyZ.keys_gives (ρ := mkeys_ren) { mkeys_lays with } Fence.wide _ trivial rfl (by omega) w.heap.size b T.length (datT T) _ (by simp) (by simp) (hown.keep ((Keeps.refl [] w).alloc _) (by simp))
      refine (callsIn_wide.1 (AnyZ.sorted_in msorted_lays Fence.wide 5 trivial trivial trivial trivial rfl (by omega) (msorts _) (enters_of Tryz.func80 (by kernel_rfl) rfl) 81 #[.pointer (some ⟨w.heap.size, 0, none⟩)] trivial (enters_of Tryz.func81 (by kernel_rfl) rfl) _ _ (by rw [size_datT]; unfold maxLen; omega) (by rw [size_datT]; omega) _ hseq)).mono ?_
      rintro e w' ⟨v, ss, rfl, hp, h1, _, h2⟩
      have hl : ss.length = T.length := by rw [hp.length_eq, keys_datT, List.length_map]
      rw [keys_sorted hr hp, hl, List.map_map] at h1
      exact ⟨v, rfl, ownsRow_base_a h1 (by simp), h2⟩
  clear h
  go_enter Tryz.func44, Tryz.ntmps44
  go_wp2_with (first
    | (go_at_call 64; refine HK.out.mono ?_; rintro e w1 ⟨rfl, rfl⟩)
    | (go_at_call 63; refine HS.out.mono ?_; rintro e w2 ⟨v, rfl, h1, h2⟩; have H1 := Lib.hid h1; have H2 := Lib.hid h2; clear h1 h2))
  go_ret
  obtain ⟨A, c, rfl⟩ := own_slice H1.out
  exact ⟨A, c, rfl, H1.out, ((Keeps.refl [] w).alloc _).trans' (Keeps.of_below H2.out)⟩

end Go.Proofs.YtikfpkeffmbnpaaGreat
