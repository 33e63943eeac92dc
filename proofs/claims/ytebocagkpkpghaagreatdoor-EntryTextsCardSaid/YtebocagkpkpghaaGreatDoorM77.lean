/- Texts of one proof, laid together: W6 W7. -/
import Derived.Shelf.SlIter.Nil
import Derived.Test.YtebocagkpkpghaaGreatDoorM75
import Derived.Test.YtebocagkpkpghaaGreatDoorM71
import Derived.Test.YtebocagkpkpghaaGreatDoorM76
/- entry: a table's names, in order (slices.Sorted(maps.Keys(t)), by the shelf). -/
namespace Go.Proofs.YtebocagkpkpghaaGreatDoor
open Go.RowKit Go.Maps Go.Sort Go.Shelf
set_option linter.unusedVariables false
set_option linter.unusedSimpArgs false
set_option maxRecDepth 100000

def mkeys_ren : Go.Shelf.Ren := ⟨fun | 7 => 67 | 10 => 85 | n => n, fun | 23 => 63 | 26 => 9 | 3 => 40 | 28 => 107 | 0 => 0 | 27 => 106 | 33 => 56 | 4 => 4 | n => n, fun n => n⟩

theorem mkeys_lays : SlLaysZ.n7 Tryz.prog mkeys_ren where
  mixed := by kernel_rfl
  f7 := ⟨Tryz.f67.name, of_decide_eq_true (by kernel_rfl), Tryz.func67.trans (congrArg some (by kernel_rfl))⟩
  f10 := ⟨Tryz.f85.name, of_decide_eq_true (by kernel_rfl), Tryz.func85.trans (congrArg some (by kernel_rfl))⟩
  t0 := Tryz.underlying0
  a0 := Tryz.isAgg0
  z0 := Tryz.sizeOf0
  v0 := Tryz.zeroValue0
  t4 := Tryz.underlying4
  a4 := Tryz.isAgg4
  z4 := Tryz.sizeOf4
  v4 := Tryz.zeroValue4
  t23 := Tryz.underlying63
  a23 := Tryz.isAgg63
  z23 := Tryz.sizeOf63
  v23 := Tryz.zeroValue63
  t26 := Tryz.underlying9
  a26 := Tryz.isAgg9
  z26 := Tryz.sizeOf9
  v26 := Tryz.zeroValue9
  t27 := Tryz.underlying106
  a27 := Tryz.isAgg106
  z27 := Tryz.sizeOf106
  v27 := Tryz.zeroValue106
  t28 := Tryz.underlying107
  a28 := Tryz.isAgg107
  z28 := Tryz.sizeOf107
  v28 := Tryz.zeroValue107
  t33 := Tryz.underlying56
  a33 := Tryz.isAgg56
  z33 := Tryz.sizeOf56
  v33 := Tryz.zeroValue56

def msorted_ren : Go.Shelf.Ren := ⟨fun | 6 => 66 | 8 => 83 | 9 => 84 | 11 => 97 | 13 => 99 | 12 => 98 | 23 => 119 | 24 => 120 | 14 => 110 | 15 => 111 | 16 => 112 | 17 => 113 | 18 => 114 | 19 => 115 | 20 => 116 | 21 => 117 | 22 => 118 | 25 => 135 | 26 => 136 | 27 => 137 | 28 => 138 | 29 => 139 | 30 => 140 | 31 => 148 | n => n, fun | 26 => 9 | 28 => 107 | 24 => 40 | 0 => 0 | 3 => 3 | 37 => 134 | 48 => 156 | 50 => 137 | 4 => 4 | 40 => 149 | 39 => 148 | 45 => 60 | 5 => 5 | 9 => 9 | 51 => 173 | 55 => 177 | 57 => 185 | 58 => 186 | 33 => 56 | n => n, fun n => n⟩

theorem msorted_lays : SlLaysZ.n6 Tryz.prog msorted_ren where
  mixed := by kernel_rfl
  f6 := ⟨Tryz.f66.name, of_decide_eq_true (by kernel_rfl), Tryz.func66.trans (congrArg some (by kernel_rfl))⟩
  f8 := ⟨Tryz.f83.name, of_decide_eq_true (by kernel_rfl), Tryz.func83.trans (congrArg some (by kernel_rfl))⟩
  f11 := ⟨Tryz.f97.name, of_decide_eq_true (by kernel_rfl), Tryz.func97.trans (congrArg some (by kernel_rfl))⟩
  t0 := Tryz.underlying0
  a0 := Tryz.isAgg0
  z0 := Tryz.sizeOf0
  v0 := Tryz.zeroValue0
  t24 := Tryz.underlying40
  a24 := Tryz.isAgg40
  z24 := Tryz.sizeOf40
  v24 := Tryz.zeroValue40
  t26 := Tryz.underlying9
  a26 := Tryz.isAgg9
  z26 := Tryz.sizeOf9
  v26 := Tryz.zeroValue9
  t28 := Tryz.underlying107
  a28 := Tryz.isAgg107
  z28 := Tryz.sizeOf107
  v28 := Tryz.zeroValue107
  i26 := by kernel_rfl

theorem msorts (m : Nat) : AnyZ.SortsIn Tryz.prog msorted_ren Fence.wide m :=
  ⟨fun blk off cap ss W hH hblk hsz => callsIn_wide.2 (AnyM.slices_Sort_string msort_lays blk off cap ss W hH hblk hsz), fun p cap W => callsIn_wide.2 (AnyM.slices_Sort_string_none msort_lays p cap W)⟩


theorem before_le {a b : Txt} (h : a < b) : leB a b = true := by simpa [leB] using tx_le h
theorem keys_datV (T : VT) : strKeys (datV T) = T.map fun p => p.1 := by
  simp only [strKeys, datV, List.map_map]
  rfl
theorem vkeys_sorted {T : List At7} {ss : List Txt} (hr : T.Pairwise fun a a' => a.name < a'.name) (h : ss.Perm (strKeys (datV (vt T)))) : ss.mergeSort leB = T.map fun a => a.name := by
  have e : strKeys (datV (vt T)) = T.map fun a => a.name := by
    rw [keys_datV]
    unfold vt
    rw [List.map_map]
    rfl
  rw [mergeSort_of_perm h, e]
  refine List.mergeSort_of_pairwise ?_
  rw [List.pairwise_map]
  exact hr.imp fun {a a'} haa => before_le haa

theorem tkeys_is (m : Option Nat) (w : World) : Calls Tryz.prog 67 #[.map m] w fun e w' => e = .returned (.func (.func 85) #[] #[.pointer (some ⟨w.heap.size, 0, none⟩)]) ∧ w.alloc (.cells #[.map m] 63) = w' :=
  (callsIn_wide.1 (AnyZ.keys_in mkeys_lays Fence.wide 5 trivial rfl m w)).mono fun e w' h => ⟨h.1, h.2.symm⟩
/-- The names of a table, rising, in new memory. -/
theorem tnames_is (b base : Nat) (T : List At7) (w : World) (h : TabI w b base T) (hT : T.length ≤ 100000) :
    Calls Tryz.prog 66 #[.func (.func 85) #[] #[.pointer (some ⟨w.heap.size, 0, none⟩)]] (w.alloc (.cells #[.map (some b)] 63)) fun e w' => ∃ A c, e = .returned (.slice A T.length c) ∧ w'.ownsRow w.heap.size 9 1 (.slice A T.length c) T.length ((T.map At7.name).map tv) ∧ Keeps [] w w' := by
  have hown : VAt (w.alloc (.cells #[.map (some b)] 63)) b (vt T) := h.map.keep ((Keeps.refl [] w).alloc _) (by simp)
  have hbl := h.map.lt'
  have hseq : SeqGives Fence.wide 2 Tryz.prog 85 #[.pointer (some ⟨w.heap.size, 0, none⟩)] encStr (fun ss => ss.Perm (strKeys (datV (vt T)))) (Maps.size (datV (vt T))) (w.alloc (.cells #[.map (some b)] 63)) :=
    AnyZ.keys_gives (ρ := mkeys_ren) { mkeys_lays with } Fence.wide _ trivial rfl (by omega) w.heap.size b (vt T).length (datV (vt T)) _ (by simp) (by simp) hown
  refine (callsIn_wide.1 (AnyZ.sorted_in msorted_lays Fence.wide 5 trivial trivial trivial trivial rfl (by omega) (msorts _) (enters_of Tryz.func84 (by kernel_rfl) rfl) 85 #[.pointer (some ⟨w.heap.size, 0, none⟩)] trivial (enters_of Tryz.func85 (by kernel_rfl) rfl) _ _ (by rw [size_datV, vt_len]; unfold maxLen; omega) (by rw [size_datV, vt_len]; omega) _ hseq)).mono ?_
  rintro e w' ⟨v, ss, rfl, hp, h1, _, h2⟩
  have hl : ss.length = T.length := by
    rw [hp.length_eq, keys_datV, List.length_map, vt_len]
  rw [vkeys_sorted h.rise hp, hl, ← map_tv] at h1
  obtain ⟨A, c, rfl⟩ := own_slice h1
  refine ⟨A, c, rfl, own_base7 h1 (by simp), ((Keeps.refl [] w).alloc _).trans' (Keeps.of_below h2)⟩
end Go.Proofs.YtebocagkpkpghaaGreatDoor
/- entry: the entry that a table makes; walked. -/
namespace Go.Proofs.YtebocagkpkpghaaGreatDoor
open Go.RowKit Go.Shelf
set_option linter.unusedVariables false
set_option linter.unusedSimpArgs false
set_option maxRecDepth 100000

theorem attr_info7 : (Tryz.prog.info? 59).map (fun i => (i.zero, i.size, i.bytes)) = some (some (.agg #[.string ⟨#[]⟩, .slice none 0 0]), 2, 40) := by kernel_rfl
/-- The entry that a table makes. -/
def tEnt (T : List At7) : List Att := T.map fun a => (a.name, ordS a.vs)
def atCells (l : List At7) : List Value := l.flatMap fun a => [tv a.name, a.val]
theorem atCells_snoc (l : List At7) (a : At7) : atCells (l ++ [a]) = atCells l ++ [tv a.name, a.val] := by simp [atCells]
theorem atCells_len (l : List At7) : (atCells l).length = l.length * 2 := by
  unfold atCells
  induction l with
  | nil => rfl
  | cons p r ih => simp only [List.flatMap_cons, List.length_append, ih, List.length_cons, List.length_nil]; omega
theorem atCells_at : ∀ (l : List At7) (i : Nat) (a : At7), l[i]? = some a → (atCells l)[i * 2]? = some (tv a.name) ∧ (atCells l)[i * 2 + 1]? = some a.val
  | [], i, p, h => by simp at h
  | q :: r, 0, p, h => by simp at h; subst h; simp [atCells]
  | q :: r, i + 1, p, h => by
    have ih := atCells_at r i p (by simpa using h)
    have e : atCells (q :: r) = tv q.name :: q.val :: atCells r := rfl
    rw [e, show (i + 1) * 2 = i * 2 + 1 + 1 by omega]
    simpa using ih
theorem EntIn.of_own {w : World} {B n c : Nat} {A : Option Addr} {t : TypeId} {l : List At7} (h : w.ownsRow B t 2 (.slice A n c) n (atCells l)) (hn : l.length = n) (hl : ∀ a ∈ l, a.fits w) : EntIn w A n l := by
  refine ⟨hn, hl, fun hp => ?_⟩
  rcases h.2 with ⟨_, h2⟩ | ⟨g, cap, cur, hA, hg, hh, r⟩
  · exfalso; omega
  · injection hA with e1 e2 e3
    subst e1
    refine ⟨g, 0, rfl, fun i a hi => ?_⟩
    obtain ⟨d1, d2⟩ := atCells_at l i a hi
    have c1 := h.cells (g := g) rfl (i * 2) _ d1
    have c2 := h.cells (g := g) rfl (i * 2 + 1) _ d2
    rw [show (⟨g, 0, none⟩ : Addr).add (i * 2) = ⟨g, 0 + i * 2, none⟩ from by unfold Addr.add; split <;> simp_all] at c1
    rw [show (⟨g, 0, none⟩ : Addr).add (i * 2 + 1) = ⟨g, 0 + i * 2 + 1, none⟩ from by unfold Addr.add; split <;> simp_all <;> omega] at c2
    exact ⟨c1, c2⟩
theorem own_caps {w : World} {base n c size : Nat} {e : TypeId} {A : Option Addr} {xs : List Value} (h : w.ownsRow base e size (.slice A n c) n xs) : n ≤ c ∧ c ≤ 9223372036854775807 := by
  rcases h.2 with ⟨hv, h2⟩ | ⟨g, cap, cur, hA, hg, hh, r1, r2, r3⟩
  · injection hv with e1 e2 e3
    omega
  · injection hA with e1 e2 e3
    subst e3
    unfold maxLen at r2
    omega
/-- What a list of attributes is in new memory. -/
def EntQ (e : List Att) (w : World) (A : Option Addr) (n c : Nat) (w' : World) : Prop :=
  ∃ L, ents L = e ∧ EntIn w' A n L ∧ n ≤ c ∧ c ≤ 9223372036854775807 ∧ ∀ a ∈ L, a.vs.length = a.n
theorem names_at {T : List At7} {j : Nat} {a : At7} (h : T[j]? = some a) : (T.map At7.name)[j]? = some a.name := by rw [List.getElem?_map, h]; rfl
theorem tEnt_take {T : List At7} {j : Nat} {a : At7} (h : T[j]? = some a) : tEnt (T.take (j + 1)) = tEnt (T.take j) ++ [(a.name, ordS a.vs)] := by
  unfold tEnt
  rw [List.take_add_one, h, List.map_append]
  rfl
theorem RowOk.fits {w : World} {base : Nat} {a : At7} (h : RowOk w base a) : a.fits w := ⟨h.name, (own_caps h.row).1, (own_caps h.row).2, h.strs⟩
theorem own_cells2 {w : World} {base n c size : Nat} {e : TypeId} {A : Option Addr} {xs : List Value} (h : w.ownsRow base e size (.slice A n c) n xs) : ∀ g, (Value.slice A n c).ownBlock = some g → ∃ cs, w.heap[g]? = some (.cells cs e (0, 0)) := fun g hg => by
  rcases h.2 with ⟨hv, h2⟩ | ⟨g', cap, cur, hA, _, hh, r⟩
  · rw [hv] at hg
    simp [Value.ownBlock] at hg
  · rw [hA] at hg
    simp [Value.ownBlock] at hg
    subst hg
    exact ⟨cur, hh⟩
/-- A row of attributes that grows turns no row of Values. -/
theorem RowOk.beside {w w' : World} {base base' : Nat} {a : At7} {A : Option Addr} {n c : Nat} {xs : List Value} (h : RowOk w base a) (hr : w.ownsRow base' 59 2 (.slice A n c) n xs) (hg : w.grownBy w' (Value.slice A n c).ownBlock) : RowOk w' base a := by
  refine h.keep (bs := (Value.slice A n c).ownBlock.toList) (Keeps.of_grown hg (fun x hx => .inl (by rw [hx]; simp))) (fun g h1 h2 => ?_)
  obtain ⟨cs, h3⟩ := own_cells2 hr g (by simpa using h2)
  obtain ⟨cs', h4⟩ := own_cells h.row g h1
  rw [h3] at h4
  injection h4 with h4
  injection h4 with _ h4 _
  exact absurd h4 (by decide)
/-- What a round of the loop finds. -/
structure EntS (w wr : World) (A : Option Addr) (j c : Nat) (L : List At7) (e : List Att) : Prop where
  ents : ents L = e
  len : L.length = j
  row : wr.ownsRow w.heap.size 59 2 (.slice A j c) j (atCells L)
  rows : ∀ a ∈ L, RowOk wr w.heap.size a
  keep : Keeps [] w wr
theorem src_at7 (w : World) (a : At7) (t : TypeId) : Src (w.alloc (.cells #[tv a.name, a.val] t)) (some ⟨w.heap.size, 0, none⟩) 1 [tv a.name, a.val] := by
  refine ⟨(fun h => by cases h), fun ad hA j u hu => ?_⟩
  cases hA
  rw [add_at, Nat.zero_add, World.cell?_alloc_new]
  simpa using hu

set_option maxHeartbeats 8000000 in
theorem tentry_is (b base : Nat) (T : List At7) (w : World) (h : TabI w b base T) (hT : T.length ≤ 100000) (hv : ∀ a ∈ T, a.n ≤ 1000000) :
    Calls Tryz.prog 35 #[.map (some b)] w fun e w' => ∃ A c, e = .returned (.slice A T.length c) ∧ EntQ (tEnt T) w A T.length c w' ∧ Keeps [] w w' := by
  obtain ⟨iu, hiu, hzu0, hzu1, hzu2⟩ := info_parts attr_info7
  have HTB := Lib.hid h
  have HV := Lib.hid hv
  have HKE := Lib.hid (tkeys_is (some b) w)
  have HNA := Lib.hid (tnames_is b base T w h hT)
  have hT2 := hT
  have HRI := Lib.hid h.rise
  clear h hv
  obtain ⟨n, hn⟩ : ∃ n, T.length = n := ⟨_, rfl⟩
  have HN := Lib.hid hn
  rw [hn] at HNA hT ⊢
  clear hn hT2
  go_enter Tryz.func35, Tryz.ntmps35
  go_wp2_with fail
  refine HKE.out.mono ?_
  rintro e w1 ⟨rfl, rfl⟩
  go_wp2_with fail
  refine HNA.out.mono ?_
  rintro e w2 ⟨A1, c1, rfl, h1, h2⟩
  have HNS : Hid (∀ X, Keeps [] w2 X → StrsIn X A1 n (T.map At7.name)) := fun X hX => StrsIn.grow hX (StrsIn.of_own h1 (by rw [List.length_map, HN.out]) (fun s hs => by
    obtain ⟨a, ha, rfl⟩ := List.mem_map.1 hs
    exact (HTB.out.rows a ha).1.name))
  have HK2 := Lib.hid h2
  clear h1 h2
  go_wp2_with fail
  go_loopw [3, 10] (fun d i wr => ∃ (A' : Option Addr) (c' j : Nat) (L : List At7), d = .slice A' j c' ∧ i = .int .i64 (j : Int) ∧ j ≤ n ∧ Hid (EntS w2 wr A' j c' L (tEnt (T.take j)))) (fun _ i _ => n - (intOf i).toNat)
  case atStart => exact ⟨none, 0, 0, [], rfl, rfl, Nat.zero_le _, rfl, rfl, World.ownsRow_nil _ _ _ _, by simp, Keeps.refl _ _⟩
  case round =>
    obtain ⟨A', c', j, L, rfl, rfl, hj, HS⟩ := hrel
    by_cases hlt : j < n
    · obtain ⟨a, hu⟩ : ∃ a, T[j]? = some a := ⟨_, List.getElem?_eq_getElem (by rw [HN.out]; exact hlt)⟩
      have hma := List.mem_of_getElem? hu
      obtain ⟨hl, hp, hc9⟩ := HNS.out wr HS.out.keep
      obtain ⟨b1, o, hA9, hcc⟩ := hc9 (by omega)
      have c0 := hcc j a.name (names_at hu)
      have HTW : Hid (TabI wr b base T) := HTB.out.keep (HK2.out.trans' HS.out.keep) (by simp)
      have hro := (HTW.out.rows a hma).1
      have hlook := run_vlook HTW.out.map 63 Tryz.underlying63 a.name (by have := hro.name; unfold maxLen; omega)
      have hget : vval (vt T) a.name = a.val := by rw [vt_val, aget_some HRI.out hma]; rfl
      rw [hget] at hlook
      have HOR := Lib.hid (ordered_is a.A a.n a.c a.vs wr hro.strs (HV.out a hma))
      have HET := Lib.hid (tEnt_take hu)
      have HNL : Hid (a.name.length ≤ 9223372036854775807) := hro.name
      have HTX : Hid (∀ s ∈ ordS a.vs, s.length ≤ 9223372036854775807) := fun s hs => hro.txt s (((ordS_is a.vs).2 s).1 hs)
      subst hA9
      unfold At7.val at hlook
      unfold tv at c0
      have hji : (j : Int) < (n : Int) := by omega
      have hj5 : j ≤ 100000 := by omega
      clear hcc hu hp hl hc9 hro hget hma
      obtain ⟨nm, aA, an, ac, avs⟩ := a
      dsimp only at hlook HOR HET HNL HTX c0
      obtain ⟨os, hos⟩ : ∃ os, ordS avs = os := ⟨_, rfl⟩
      unfold OrdQ at HOR
      rw [hos] at HOR HET HTX
      obtain ⟨on, hon⟩ : ∃ on, os.length = on := ⟨_, rfl⟩
      have HON := Lib.hid hon
      rw [hon] at HOR
      clear hos hon
      go_wp2_with fail
      refine HOR.out.mono ?_
      rintro e w5 ⟨A5, c5, rfl, h5, hk5⟩
      have HK5 := Lib.hid hk5
      obtain ⟨hcap1, hcap2⟩ := own_caps h5
      have HF5 : Hid (StrsIn w5 A5 on os) := StrsIn.of_own h5 HON.out HTX.out
      have HCP : Hid (on ≤ c5 ∧ c5 ≤ 9223372036854775807) := ⟨hcap1, hcap2⟩
      have HB3 : Hid (w2.heap.size ≤ (w5.alloc (.cells #[tv nm, .slice A5 on c5] 59)).heap.size) := by
        have h9 := (HS.out.keep.trans' hk5).size
        show _ ≤ _
        simp
        omega
      have HR5 := Lib.hid h5
      clear h5 hk5 hcap1 hcap2
      go_wp2_with (at_builtin; refine wpList_append_opt rfl (.tmp 14) (.tmp 21) 23 rfl w2.heap.size 59 iu _ 2 40 Tryz.underlying23 hiu hzu0 hzu1 hzu2 rfl (by decide) (.slice A' j c') j (atCells L) rfl (own_keep HS.out.row (HK5.out.alloc _) (by simp)) (some ⟨w5.heap.size, 0, none⟩) 1 1 [tv nm, .slice A5 on c5] rfl rfl (src_at7 w5 ⟨nm, A5, on, c5, os⟩ _) (by intro u hu; simp at hu; rcases hu with rfl | rfl <;> rfl) (by unfold maxLen; omega) (by omega) HB3.out ?_; intro v6 w6 ho hg6 hs6; obtain ⟨A6, c6, hv6⟩ := own_slice ho; subst hv6; have HO6 := Lib.hid ho; have HG6 := Lib.hid hg6; clear ho hg6 hs6)
      have HK6 : Hid (Keeps [] w2 w6) := keeps_own7 (own_keep HS.out.row (HK5.out.alloc (.cells #[tv nm, .slice A5 on c5] 59)) (by simp)) (HS.out.keep.trans' (HK5.out.alloc _)) HG6.out
      have hro5 : RowOk (w5.alloc (.cells #[tv nm, .slice A5 on c5] 59)) w2.heap.size ⟨nm, A5, on, c5, os⟩ := ⟨own_keep (own_base7 HR5.out (HS.out.keep).size) ((Keeps.refl [] w5).alloc _) (by simp), HON.out, HTX.out, HNL.out⟩
      have HNX : Hid (EntS w2 w6 A6 (j + 1) c6 (L ++ [⟨nm, A5, on, c5, os⟩]) (tEnt (T.take (j + 1)))) := by
        have hrow4 := own_keep HS.out.row (HK5.out.alloc (.cells #[tv nm, .slice A5 on c5] 59)) (by simp)
        refine ⟨?_, by rw [List.length_append, HS.out.len]; rfl, by rw [atCells_snoc]; exact HO6.out, fun x hx => ?_, HK6.out⟩
        · rw [HET.out, ← HS.out.ents]
          simp [ents, At7.att]
        · rcases List.mem_append.1 hx with hx | hx
          · exact ((HS.out.rows x hx).keep (HK5.out.alloc _) (by simp)).beside hrow4 HG6.out
          · simp at hx
            subst hx
            exact hro5.beside hrow4 HG6.out
      go_roundw
      case rel => exact ⟨A6, c6, j + 1, _, rfl, by go_num, by omega, HNX.out⟩
      case measure => simp [intOf]; omega
    · obtain rfl : j = n := by omega
      have h9 := HS.out
      rw [List.take_of_length_le (by rw [HN.out]; exact Nat.le_refl _)] at h9
      obtain ⟨hc1, hc2⟩ := own_caps h9.row
      have HR : Hid (EntQ (tEnt T) w A' j c' wr) := ⟨L, h9.ents, EntIn.of_own h9.row h9.len (fun a ha => (h9.rows a ha).fits), hc1, hc2, fun a ha => (h9.rows a ha).len⟩
      have HKK : Hid (Keeps [] w wr) := HK2.out.trans' h9.keep
      clear h9
      go_wp2_with fail
      go_ret
      exact ⟨A', c', rfl, HR.out, HKK.out⟩
end Go.Proofs.YtebocagkpkpghaaGreatDoor
