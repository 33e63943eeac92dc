
/- entry: texts sorted (slices.Sort, by the shelf), and each once (slices.Compact). -/
import Derived.Shelf.SortM.Plain
import Derived.Shelf.SortM.SortNone
import Derived.Shelf.Slices.CompactS
import Derived.Sort.OwnSorted
import Derived.Test.YtmgkejgmkfeccaaGreatDoorV4
namespace Go.Proofs.YtmgkejgmkfeccaaGreatDoor
open Go.RowKit Go.Maps Go.Sort Go.Shelf
set_option linter.unusedVariables false
set_option linter.unusedSimpArgs false
set_option maxRecDepth 100000

def msort_ren : Go.Shelf.Ren := ⟨fun | 6 => 84 | 8 => 99 | 9 => 98 | 19 => 119 | 20 => 120 | 21 => 110 | 22 => 111 | 23 => 112 | 24 => 113 | 25 => 114 | 26 => 115 | 27 => 116 | 28 => 117 | 29 => 118 | 36 => 135 | 31 => 136 | 32 => 137 | 37 => 138 | 38 => 139 | 39 => 140 | 41 => 148 | n => n, fun | 27 => 40 | 29 => 9 | 3 => 3 | 32 => 134 | 26 => 40 | 0 => 0 | 44 => 156 | 46 => 137 | 4 => 4 | 36 => 149 | 35 => 148 | 41 => 60 | 5 => 5 | 9 => 9 | 53 => 173 | 57 => 177 | 63 => 185 | 64 => 186 | n => n, fun n => n⟩

theorem msort_lays : SlLaysM.n6 Tryz.prog msort_ren where
  mixed := by kernel_rfl
  f6 := ⟨Tryz.f84.name, of_decide_eq_true (by kernel_rfl), Tryz.func84.trans (congrArg some (by kernel_rfl))⟩
  f8 := Tryz.func99.trans (congrArg some (by kernel_rfl))
  f9 := ⟨Tryz.f98.name, of_decide_eq_true (by kernel_rfl), Tryz.func98.trans (congrArg some (by kernel_rfl))⟩
  f19 := Tryz.func119.trans (congrArg some (by kernel_rfl))
  f20 := Tryz.func120.trans (congrArg some (by kernel_rfl))
  f21 := ⟨Tryz.f110.name, of_decide_eq_true (by kernel_rfl), Tryz.func110.trans (congrArg some (by kernel_rfl))⟩
  f22 := ⟨Tryz.f111.name, of_decide_eq_true (by kernel_rfl), Tryz.func111.trans (congrArg some (by kernel_rfl))⟩
  f23 := ⟨Tryz.f112.name, of_decide_eq_true (by kernel_rfl), Tryz.func112.trans (congrArg some (by kernel_rfl))⟩
  f24 := ⟨Tryz.f113.name, of_decide_eq_true (by kernel_rfl), Tryz.func113.trans (congrArg some (by kernel_rfl))⟩
  f25 := ⟨Tryz.f114.name, of_decide_eq_true (by kernel_rfl), Tryz.func114.trans (congrArg some (by kernel_rfl))⟩
  f26 := ⟨Tryz.f115.name, of_decide_eq_true (by kernel_rfl), Tryz.func115.trans (congrArg some (by kernel_rfl))⟩
  f27 := ⟨Tryz.f116.name, of_decide_eq_true (by kernel_rfl), Tryz.func116.trans (congrArg some (by kernel_rfl))⟩
  f28 := ⟨Tryz.f117.name, of_decide_eq_true (by kernel_rfl), Tryz.func117.trans (congrArg some (by kernel_rfl))⟩
  f29 := ⟨Tryz.f118.name, of_decide_eq_true (by kernel_rfl), Tryz.func118.trans (congrArg some (by kernel_rfl))⟩
  f31 := Tryz.func136.trans (congrArg some (by kernel_rfl))
  f32 := Tryz.func137.trans (congrArg some (by kernel_rfl))
  f36 := ⟨Tryz.f135.name, of_decide_eq_true (by kernel_rfl), Tryz.func135.trans (congrArg some (by kernel_rfl))⟩
  f37 := ⟨Tryz.f138.name, of_decide_eq_true (by kernel_rfl), Tryz.func138.trans (congrArg some (by kernel_rfl))⟩
  f38 := ⟨Tryz.f139.name, of_decide_eq_true (by kernel_rfl), Tryz.func139.trans (congrArg some (by kernel_rfl))⟩
  f39 := ⟨Tryz.f140.name, of_decide_eq_true (by kernel_rfl), Tryz.func140.trans (congrArg some (by kernel_rfl))⟩
  f41 := ⟨Tryz.f148.name, of_decide_eq_true (by kernel_rfl), Tryz.func148.trans (congrArg some (by kernel_rfl))⟩
  t0 := Tryz.underlying0
  a0 := Tryz.isAgg0
  z0 := Tryz.sizeOf0
  v0 := Tryz.zeroValue0
  t3 := Tryz.underlying3
  a3 := Tryz.isAgg3
  z3 := Tryz.sizeOf3
  v3 := Tryz.zeroValue3
  t4 := Tryz.underlying4
  a4 := Tryz.isAgg4
  z4 := Tryz.sizeOf4
  v4 := Tryz.zeroValue4
  t5 := Tryz.underlying5
  a5 := Tryz.isAgg5
  z5 := Tryz.sizeOf5
  v5 := Tryz.zeroValue5
  t9 := Tryz.underlying9
  a9 := Tryz.isAgg9
  z9 := Tryz.sizeOf9
  v9 := Tryz.zeroValue9
  t26 := Tryz.underlying40
  a26 := Tryz.isAgg40
  z26 := Tryz.sizeOf40
  v26 := Tryz.zeroValue40
  t27 := Tryz.underlying40
  a27 := Tryz.isAgg40
  z27 := Tryz.sizeOf40
  v27 := Tryz.zeroValue40
  t29 := Tryz.underlying9
  a29 := Tryz.isAgg9
  z29 := Tryz.sizeOf9
  v29 := Tryz.zeroValue9
  t32 := Tryz.underlying134
  a32 := Tryz.isAgg134
  z32 := Tryz.sizeOf134
  v32 := Tryz.zeroValue134
  t35 := Tryz.underlying148
  a35 := Tryz.isAgg148
  z35 := Tryz.sizeOf148
  v35 := Tryz.zeroValue148
  t36 := Tryz.underlying149
  a36 := Tryz.isAgg149
  z36 := Tryz.sizeOf149
  v36 := Tryz.zeroValue149
  t41 := Tryz.underlying60
  a41 := Tryz.isAgg60
  z41 := Tryz.sizeOf60
  v41 := Tryz.zeroValue60
  t44 := Tryz.underlying156
  a44 := Tryz.isAgg156
  z44 := Tryz.sizeOf156
  v44 := Tryz.zeroValue156
  t46 := Tryz.underlying137
  a46 := Tryz.isAgg137
  z46 := Tryz.sizeOf137
  v46 := Tryz.zeroValue137
  t53 := Tryz.underlying173
  a53 := Tryz.isAgg173
  z53 := Tryz.sizeOf173
  v53 := Tryz.zeroValue173
  t57 := Tryz.underlying177
  a57 := Tryz.isAgg177
  z57 := Tryz.sizeOf177
  v57 := Tryz.zeroValue177
  t63 := Tryz.underlying185
  a63 := Tryz.isAgg185
  z63 := Tryz.sizeOf185
  v63 := Tryz.zeroValue185
  t64 := Tryz.underlying186
  a64 := Tryz.isAgg186
  z64 := Tryz.sizeOf186
  v64 := Tryz.zeroValue186


def compact_ren : Go.Shelf.Ren := ⟨fun | 194 => 72 | n => n, fun | 0 => 0 | 3 => 3 | 4 => 4 | 9 => 9 | 31 => 40 | n => n, fun n => n⟩
theorem compact_lays : Lays.n194 Tryz.prog compact_ren where
  mixed := by kernel_rfl
  f194 := Tryz.func72.trans (congrArg some (by kernel_rfl))
  t0 := Tryz.underlying0
  a0 := Tryz.isAgg0
  z0 := Tryz.sizeOf0
  v0 := Tryz.zeroValue0
  t3 := Tryz.underlying3
  a3 := Tryz.isAgg3
  z3 := Tryz.sizeOf3
  v3 := Tryz.zeroValue3
  t4 := Tryz.underlying4
  a4 := Tryz.isAgg4
  z4 := Tryz.sizeOf4
  v4 := Tryz.zeroValue4
  t9 := Tryz.underlying9
  a9 := Tryz.isAgg9
  z9 := Tryz.sizeOf9
  v9 := Tryz.zeroValue9
  t31 := Tryz.underlying40
  a31 := Tryz.isAgg40
  z31 := Tryz.sizeOf40
  v31 := Tryz.zeroValue40

theorem row_holds {W : World} {base g n c : Nat} {l : List Txt} (h : W.ownsRow base 9 1 (.slice (some ⟨g, 0, none⟩) n c) n (l.map tv)) (hn : l.length = n) (hp : 0 < n) :
    Holds encStr W g 0 l.toArray ∧ base ≤ g ∧ n ≤ c ∧ c ≤ maxLen ∧ ∃ cur, W.heap[g]? = some (.cells cur 9 (0, 0)) ∧ cur.size = c ∧ cur.toList.take n = l.map tv := by
  rcases h.2 with ⟨_, h2⟩ | ⟨g', cap, cur, hA, hg, hh, r1, r2, r3, r4⟩
  · exfalso; omega
  · injection hA with e1 e2 e3
    injection e1 with e1
    injection e1 with e1 _ _
    subst e1 e3
    rw [Nat.mul_one] at r4 r3
    exact ⟨holds_of_block hh (by rw [hn]; exact r4), hg, r1, r2, cur, hh, r3, r4⟩
theorem own_prefix {W : World} {base g n m c : Nat} {e : TypeId} {xs : List Value} (h : W.ownsRow base e 1 (.slice (some ⟨g, 0, none⟩) n c) n xs) (hm : m ≤ n) (hx : xs.length = n) (hp : 0 < n) : W.ownsRow base e 1 (.slice (some ⟨g, 0, none⟩) m c) m (xs.take m) := by
  rcases h.2 with ⟨_, h2⟩ | ⟨g', cap, cur, hA, hg, hh, r1, r2, r3, r4⟩
  · exfalso; omega
  · injection hA with e1 e2 e3
    injection e1 with e1
    injection e1 with e1 _ _
    subst e1 e3
    refine ⟨by rw [List.length_take]; omega, .inr ⟨g, c, cur, rfl, hg, hh, by omega, r2, r3, ?_⟩⟩
    rw [Nat.mul_one] at r4 ⊢
    rw [← r4, List.take_take, Nat.min_eq_left hm]
theorem grow_none (w : World) : grow w #[] = w := by
  unfold grow
  simp
theorem map_tv (l : List Txt) : l.map tv = l.map encStr := rfl

set_option maxHeartbeats 2000000 in
theorem sorted_is (A : Option Addr) (n c B : Nat) (l : List Txt) (w : World) (hB : w.cell? ⟨B, 0, none⟩ = some (.slice A n c)) (h : StrsIn w A n l) (hn : n ≤ 1000000) :
    Calls Tryz.prog 66 #[.func (.func 87) #[] #[.pointer (some ⟨B, 0, none⟩)]] w fun e w' => ∃ A' c', e = .returned (.slice A' n c') ∧ w'.ownsRow w.heap.size 9 1 (.slice A' n c') n ((l.mergeSort fun a b => decide (a ≤ b)).map tv) ∧ Keeps [] w w' := by
  have HA := Lib.hid (collect_is A n c B l w hB h hn)
  have HL : Hid (l.length = n) := h.1
  clear hB h
  go_enter Tryz.func66, Tryz.ntmps66
  go_wp2_with fail
  refine HA.out.mono ?_
  rintro e w1 ⟨A', c', rfl, h1, h2⟩
  have H1 := Lib.hid h1
  have H2 := Lib.hid h2
  clear h1 h2
  go_wp2_with fail
  rcases Nat.eq_zero_or_pos n with h0 | h0
  · subst h0
    have hl : l = [] := List.length_eq_zero_iff.1 HL.out
    subst hl
    refine (AnyM.slices_Sort_string_none msort_lays A' c' w1).mono ?_
    rintro e w2 ⟨rfl, rfl⟩
    go_wp2_with fail
    go_ret
    exact ⟨A', c', rfl, by simpa using H1.out, H2.out⟩
  · obtain ⟨g, c2, hv⟩ : ∃ g c2, Value.slice A' n c' = .slice (some ⟨g, 0, none⟩) n c2 := by
      rcases H1.out.2 with ⟨_, h2⟩ | ⟨g, cap, cur, hA, _⟩
      · exfalso; omega
      · exact ⟨g, cap, hA⟩
    injection hv with e1 _ e3
    subst e1 e3
    obtain ⟨hH, hbase, hc1, hc2, cur, hcur, hsz, htk⟩ := row_holds H1.out HL.out h0
    have HS := AnyM.slices_Sort_string msort_lays g 0 c' l w1 hH (lt_of_heap hcur) (by rw [HL.out]; omega)
    rw [HL.out] at HS
    have HS2 := Lib.hid HS
    clear HS
    refine HS2.out.mono ?_
    rintro e w2 ⟨rfl, k, os, rfl⟩
    have hrow := ownsRow_sorted (w := w1) (n := k) (os := os) (ss := l) (ts := l.mergeSort fun a b => decide (a ≤ b)) (by simp) hbase hcur (by rw [HL.out]; exact hc1) hc2 (by rw [hsz, Nat.mul_one])
    have hg := grownBy_sorted (w := w1) (g := g) (n := k) (os := os) (l.mergeSort fun a b => decide (a ≤ b)).toArray
    have hkk : Keeps [g] w1 (grow (putRow encStr (Sort.ahead w1 k) g 0 (l.mergeSort fun a b => decide (a ≤ b)).toArray) os) := Keeps.of_grown hg (fun x hx => .inl (by cases hx; simp))
    rw [HL.out] at hrow
    have HR := Lib.hid hrow
    have HK : Hid (Keeps [] w (grow (putRow encStr (Sort.ahead w1 k) g 0 (l.mergeSort fun a b => decide (a ≤ b)).toArray) os)) := H2.out.trans hkk (fun x hx => .inr (by simp at hx; subst hx; exact hbase))
    clear hrow hg hkk hH hcur htk
    generalize grow (putRow encStr (Sort.ahead w1 k) g 0 (l.mergeSort fun a b => decide (a ≤ b)).toArray) os = w2 at *
    go_wp2_with fail
    go_ret
    exact ⟨some ⟨g, 0, none⟩, c', rfl, HR.out, HK.out⟩

/-- Texts put in order, each once, in new memory. -/
def OrdQ (l : List Txt) (w : World) (e : Ending) (w' : World) : Prop :=
  ∃ A' c', e = .returned (.slice A' (ordS l).length c') ∧ w'.ownsRow w.heap.size 9 1 (.slice A' (ordS l).length c') (ordS l).length ((ordS l).map tv) ∧ Keeps [] w w'
theorem compact_len (l : List Txt) : (Go.Lib.compact l).length ≤ l.length := by
  unfold Go.Lib.compact Go.Lib.compactUpTo
  rw [List.length_map]
  have := List.length_filter_le (Go.Lib.keeps l.toArray) (List.range l.length)
  simpa using this
set_option maxHeartbeats 2000000 in
theorem ordered_is (A : Option Addr) (n c : Nat) (l : List Txt) (w : World) (h : StrsIn w A n l) (hn : n ≤ 1000000) :
    Calls Tryz.prog 50 #[.slice A n c] w (OrdQ l w) := by
  have HV := Lib.hid (values_is A n c w)
  have HW0 : Hid (Keeps [] w (w.alloc (.cells #[.slice A n c] 40))) := (Keeps.refl [] w).alloc _
  have HSO := Lib.hid (sorted_is A n c w.heap.size l (w.alloc (.cells #[.slice A n c] 40)) (by rw [World.cell?_alloc_new]; rfl) (StrsIn.grow HW0.out h) hn)
  have HL : Hid (l.length = n) := h.1
  have hz : (w.alloc (.cells #[.slice A n c] 40)).heap.size = w.heap.size + 1 := by simp
  clear h
  go_enter Tryz.func50, Tryz.ntmps50
  go_wp2_with fail
  refine HV.out.mono ?_
  rintro e w1 ⟨rfl, rfl⟩
  go_wp2_with fail
  refine HSO.out.mono ?_
  rintro e w2 ⟨A', c', rfl, h1, h2⟩
  have H1 := Lib.hid h1
  have H2 := Lib.hid (HW0.out.trans' h2)
  clear h1 h2
  go_wp2_with fail
  obtain ⟨ms, hms⟩ : ∃ ms, (l.mergeSort fun a b => decide (a ≤ b)) = ms := ⟨_, rfl⟩
  have HML : Hid (ms.length = n) := by show _ = _; rw [← hms, List.length_mergeSort]; exact HL.out
  have HOS : Hid (ordS l = Go.Lib.compact ms) := by show _ = _; unfold ordS; rw [hms]
  rw [hms] at H1
  clear hms
  rcases Nat.eq_zero_or_pos n with h0 | h0
  · subst h0
    have hl : ms = [] := List.length_eq_zero_iff.1 HML.out
    have hoe : ordS l = [] := by rw [HOS.out, hl]; rfl
    refine (Any.slices_Compact_string_empty compact_lays A' c' w2).mono ?_
    rintro e w3 ⟨rfl, rfl⟩
    go_wp2_with fail
    go_ret
    refine ⟨A', c', by rw [hoe]; rfl, ?_, H2.out⟩
    rw [hoe]
    have h9 := H1.out
    rw [hl] at h9
    exact own_base7 h9 (by rw [hz]; omega)
  · obtain ⟨g, c2, hv⟩ : ∃ g c2, Value.slice A' n c' = .slice (some ⟨g, 0, none⟩) n c2 := by
      rcases H1.out.2 with ⟨_, h2⟩ | ⟨g, cap, cur, hA, _⟩
      · exfalso; omega
      · exact ⟨g, cap, hA⟩
    injection hv with e1 _ e3
    subst e1 e3
    obtain ⟨hH, hbase, hc1, hc2, cur, hcur, hsz, htk⟩ := row_holds H1.out HML.out h0
    have HS := Any.slices_Compact_string compact_lays g 0 c' ms w2 hH (by rw [HML.out]; omega) (by rw [HML.out]; exact hc1)
    rw [HML.out, ← HOS.out] at HS
    have HS2 := Lib.hid HS
    have hle := compact_len ms
    rw [← HOS.out, HML.out] at hle
    clear HS
    refine HS2.out.mono ?_
    rintro e w3 ⟨rfl, q, rfl⟩
    obtain ⟨os, hos⟩ : ∃ os, ordS l = os := ⟨_, rfl⟩
    rw [hos] at hle ⊢
    have HOQ := Lib.hid hos
    obtain ⟨ts, hts⟩ : ∃ ts, os ++ List.replicate (n - os.length) ([] : List UInt8) = ts := ⟨_, rfl⟩
    have htl : ts.length = ms.length := by rw [← hts, List.length_append, List.length_replicate, HML.out]; omega
    have htt : ts.take os.length = os := by rw [← hts]; simp
    rw [hts]
    have hrow := ownsRow_sorted (w := w2) (n := q) (os := #[]) (ss := ms) (ts := ts) htl hbase hcur (by rw [HML.out]; exact hc1) hc2 (by rw [hsz, Nat.mul_one])
    have hg := grownBy_sorted (w := w2) (g := g) (n := q) (os := #[]) ts.toArray
    rw [show grow (putRow encStr (Sort.ahead w2 q) g 0 ts.toArray) #[] = putRow encStr (Sort.ahead w2 q) g 0 ts.toArray from grow_none _] at hrow hg
    rw [HML.out] at hrow
    have hkk : Keeps [g] w2 (putRow encStr (Sort.ahead w2 q) g 0 ts.toArray) := Keeps.of_grown hg (fun x hx => .inl (by cases hx; simp))
    have hpre := own_prefix hrow hle (by rw [List.length_map, htl, HML.out]) h0
    rw [← List.map_take, htt] at hpre
    have HR := Lib.hid (own_base7 hpre (show w.heap.size ≤ _ by rw [hz]; omega))
    have HK : Hid (Keeps [] w (putRow encStr (Sort.ahead w2 q) g 0 ts.toArray)) := H2.out.trans hkk (fun x hx => .inr (by simp at hx; subst hx; omega))
    clear hrow hg hkk hH hcur htk hpre htt hts
    generalize putRow encStr (Sort.ahead w2 q) g 0 ts.toArray = w3 at *
    go_wp2_with fail
    go_ret
    unfold OrdQ
    rw [HOQ.out]
    exact ⟨some ⟨g, 0, none⟩, c', rfl, HR.out, HK.out⟩
end Go.Proofs.YtmgkejgmkfeccaaGreatDoor
