
/- entry: a table's names, in order (slices.Sorted(maps.Keys(t)), by the shelf). -/
import Derived.Shelf.SlIter.Nil
import Derived.Test.YtmgkejgmkfeccaaGreatDoorW3
import Derived.Test.YtmgkejgmkfeccaaGreatDoorV5
namespace Go.Proofs.YtmgkejgmkfeccaaGreatDoor
open Go.RowKit Go.Maps Go.Sort Go.Shelf
set_option linter.unusedVariables false
set_option linter.unusedSimpArgs false
set_option maxRecDepth 100000

def mkeys_ren : Go.Shelf.Ren := ⟨fun | 7 => 67 | 10 => 85 | n => n, fun | 23 => 63 | 26 => 9 | 3 => 40 | 28 => 107 | 0 => 0 | 27 => 106 | 33 => 56 | 4 => 4 | n => n, fun n => n⟩

theorem mkeys_lays : SlLaysZ.n7 Tryz.prog mkeys_ren where
  mixed := by kernel_rfl
  f7 := ⟨Tryz.f67.name, of_decide_eq_true (by kernel_rfl), Tryz.func67.trans (congrArg some (by kernel_rfl))⟩
  f10 := ⟨Tryz.f85.name, of_decide_eq_true (by kernel_rfl), Tryz.func85.trans (congrArg some (by kernel_rfl))⟩
  t0 := Tryz.underlying0
  a0 := Tryz.isAgg0
  z0 := Tryz.sizeOf0
  v0 := Tryz.zeroValue0
  t4 := Tryz.underlying4
  a4 := Tryz.isAgg4
  z4 := Tryz.sizeOf4
  v4 := Tryz.zeroValue4
  t23 := Tryz.underlying63
  a23 := Tryz.isAgg63
  z23 := Tryz.sizeOf63
  v23 := Tryz.zeroValue63
  t26 := Tryz.underlying9
  a26 := Tryz.isAgg9
  z26 := Tryz.sizeOf9
  v26 := Tryz.zeroValue9
  t27 := Tryz.underlying106
  a27 := Tryz.isAgg106
  z27 := Tryz.sizeOf106
  v27 := Tryz.zeroValue106
  t28 := Tryz.underlying107
  a28 := Tryz.isAgg107
  z28 := Tryz.sizeOf107
  v28 := Tryz.zeroValue107
  t33 := Tryz.underlying56
  a33 := Tryz.isAgg56
  z33 := Tryz.sizeOf56
  v33 := Tryz.zeroValue56

def msorted_ren : Go.Shelf.Ren := ⟨fun | 6 => 66 | 8 => 83 | 9 => 84 | 11 => 97 | 13 => 99 | 12 => 98 | 23 => 119 | 24 => 120 | 14 => 110 | 15 => 111 | 16 => 112 | 17 => 113 | 18 => 114 | 19 => 115 | 20 => 116 | 21 => 117 | 22 => 118 | 25 => 135 | 26 => 136 | 27 => 137 | 28 => 138 | 29 => 139 | 30 => 140 | 31 => 148 | n => n, fun | 26 => 9 | 28 => 107 | 24 => 40 | 0 => 0 | 3 => 3 | 37 => 134 | 48 => 156 | 50 => 137 | 4 => 4 | 40 => 149 | 39 => 148 | 45 => 60 | 5 => 5 | 9 => 9 | 51 => 173 | 55 => 177 | 57 => 185 | 58 => 186 | 33 => 56 | n => n, fun n => n⟩

theorem msorted_lays : SlLaysZ.n6 Tryz.prog msorted_ren where
  mixed := by kernel_rfl
  f6 := ⟨Tryz.f66.name, of_decide_eq_true (by kernel_rfl), Tryz.func66.trans (congrArg some (by kernel_rfl))⟩
  f8 := ⟨Tryz.f83.name, of_decide_eq_true (by kernel_rfl), Tryz.func83.trans (congrArg some (by kernel_rfl))⟩
  f11 := ⟨Tryz.f97.name, of_decide_eq_true (by kernel_rfl), Tryz.func97.trans (congrArg some (by kernel_rfl))⟩
  t0 := Tryz.underlying0
  a0 := Tryz.isAgg0
  z0 := Tryz.sizeOf0
  v0 := Tryz.zeroValue0
  t24 := Tryz.underlying40
  a24 := Tryz.isAgg40
  z24 := Tryz.sizeOf40
  v24 := Tryz.zeroValue40
  t26 := Tryz.underlying9
  a26 := Tryz.isAgg9
  z26 := Tryz.sizeOf9
  v26 := Tryz.zeroValue9
  t28 := Tryz.underlying107
  a28 := Tryz.isAgg107
  z28 := Tryz.sizeOf107
  v28 := Tryz.zeroValue107
  i26 := by kernel_rfl

theorem msorts (m : Nat) : AnyZ.SortsIn Tryz.prog msorted_ren Fence.wide m :=
  ⟨fun blk off cap ss W hH hblk hsz => callsIn_wide.2 (AnyM.slices_Sort_string msort_lays blk off cap ss W hH hblk hsz), fun p cap W => callsIn_wide.2 (AnyM.slices_Sort_string_none msort_lays p cap W)⟩


theorem before_le {a b : Txt} (h : a < b) : leB a b = true := by simpa [leB] using tx_le h
theorem keys_datV (T : VT) : strKeys (datV T) = T.map fun p => p.1 := by
  simp only [strKeys, datV, List.map_map]
  rfl
theorem vkeys_sorted {T : List At7} {ss : List Txt} (hr : T.Pairwise fun a a' => a.name < a'.name) (h : ss.Perm (strKeys (datV (vt T)))) : ss.mergeSort leB = T.map fun a => a.name := by
  have e : strKeys (datV (vt T)) = T.map fun a => a.name := by
    rw [keys_datV]
    unfold vt
    rw [List.map_map]
    rfl
  rw [mergeSort_of_perm h, e]
  refine List.mergeSort_of_pairwise ?_
  rw [List.pairwise_map]
  exact hr.imp fun {a a'} haa => before_le haa

theorem tkeys_is (m : Option Nat) (w : World) : Calls Tryz.prog 67 #[.map m] w fun e w' => e = .returned (.func (.func 85) #[] #[.pointer (some ⟨w.heap.size, 0, none⟩)]) ∧ w.alloc (.cells #[.map m] 63) = w' :=
  (callsIn_wide.1 (AnyZ.keys_in mkeys_lays Fence.wide 5 trivial rfl m w)).mono fun e w' h => ⟨h.1, h.2.symm⟩
/-- The names of a table, rising, in new memory. -/
theorem tnames_is (b base : Nat) (T : List At7) (w : World) (h : TabI w b base T) (hT : T.length ≤ 100000) :
    Calls Tryz.prog 66 #[.func (.func 85) #[] #[.pointer (some ⟨w.heap.size, 0, none⟩)]] (w.alloc (.cells #[.map (some b)] 63)) fun e w' => ∃ A c, e = .returned (.slice A T.length c) ∧ w'.ownsRow w.heap.size 9 1 (.slice A T.length c) T.length ((T.map At7.name).map tv) ∧ Keeps [] w w' := by
  have hown : VAt (w.alloc (.cells #[.map (some b)] 63)) b (vt T) := h.map.keep ((Keeps.refl [] w).alloc _) (by simp)
  have hbl := h.map.lt'
  have hseq : SeqGives Fence.wide 2 Tryz.prog 85 #[.pointer (some ⟨w.heap.size, 0, none⟩)] encStr (fun ss => ss.Perm (strKeys (datV (vt T)))) (Maps.size (datV (vt T))) (w.alloc (.cells #[.map (some b)] 63)) :=
    AnyZ.keys_gives (ρ := mkeys_ren) { mkeys_lays with } Fence.wide _ trivial rfl (by omega) w.heap.size b (vt T).length (datV (vt T)) _ (by simp) (by simp) hown
  refine (callsIn_wide.1 (AnyZ.sorted_in msorted_lays Fence.wide 5 trivial trivial trivial trivial rfl (by omega) (msorts _) (enters_of Tryz.func84 (by kernel_rfl) rfl) 85 #[.pointer (some ⟨w.heap.size, 0, none⟩)] trivial (enters_of Tryz.func85 (by kernel_rfl) rfl) _ _ (by rw [size_datV, vt_len]; unfold maxLen; omega) (by rw [size_datV, vt_len]; omega) _ hseq)).mono ?_
  rintro e w' ⟨v, ss, rfl, hp, h1, _, h2⟩
  have hl : ss.length = T.length := by
    rw [hp.length_eq, keys_datV, List.length_map, vt_len]
  rw [vkeys_sorted h.rise hp, hl, ← map_tv] at h1
  obtain ⟨A, c, rfl⟩ := own_slice h1
  refine ⟨A, c, rfl, own_base7 h1 (by simp), ((Keeps.refl [] w).alloc _).trans' (Keeps.of_below h2)⟩
end Go.Proofs.YtmgkejgmkfeccaaGreatDoor
