/- Texts of one proof, laid together: W21 W22 W23. -/
import Derived.Test.YtebocagkpkpghaaGreatDoorM82
/- entry: Get, kindOf; walked. -/
namespace Go.Proofs.YtebocagkpkpghaaGreatDoor
open Go.RowKit Go.Shelf
set_option linter.unusedVariables false
set_option linter.unusedSimpArgs false
set_option maxRecDepth 100000

theorem find_none7 {l : List Att} {j : Nat} {a : Att} {z : Txt} (h : l[j]? = some a) (hn : a.1 ≠ z) (hp : (l.take j).find? (fun a => a.1 == z) = none) : (l.take (j + 1)).find? (fun a => a.1 == z) = none := by
  rw [List.take_add_one, h, List.find?_append, hp]
  simp [hn]
theorem find_some7 {l : List Att} {j : Nat} {a : Att} {z : Txt} (h : l[j]? = some a) (hn : a.1 = z) (hp : (l.take j).find? (fun a => a.1 == z) = none) : l.find? (fun a => a.1 == z) = some a := by
  have h1 : (l.take (j + 1)).find? (fun a => a.1 == z) = some a := by
    rw [List.take_add_one, h, List.find?_append, hp]
    simp [hn]
  have h2 : l = l.take (j + 1) ++ l.drop (j + 1) := (List.take_append_drop _ _).symm
  rw [h2, List.find?_append, h1]
  rfl
/-- What a call answers that tells Values: in new memory. -/
def ValsQ (vs : List Txt) (w : World) (e : Ending) (w' : World) : Prop :=
  ∃ A c, e = .returned (.slice A vs.length c) ∧ w'.ownsRow w.heap.size 9 1 (.slice A vs.length c) vs.length (vs.map tv) ∧ Keeps [] w w'
set_option maxHeartbeats 4000000 in
theorem get_is (A : Option Addr) (n c : Nat) (l : List At7) (v : Txt) (w : World) (h : EntIn w A n l) (hf : Few7 100000 l) (hv : v.length ≤ 9223372036854775807) :
    Calls Tryz.prog 20 #[.slice A n c, tv v] w (ValsQ (cont2 (ents l) (smallL v)) w) := by
  have HD := Lib.hid h
  have HF := Lib.hid hf
  have hn : n ≤ 100000 := by rw [← h.1]; exact hf.1
  have HEL : Hid ((ents l).length = n) := by show _ = _; rw [ents_len, h.1]
  have HSM := Lib.hid (small_is v w hv)
  obtain ⟨z, hz⟩ : ∃ z, smallL v = z := ⟨_, rfl⟩
  rw [hz] at HSM ⊢
  unfold tv
  clear h hf hz
  go_enter Tryz.func20, Tryz.ntmps20
  go_wp2_with fail
  refine HSM.out.mono ?_
  rintro e w1 ⟨rfl, hk1⟩
  have HK1 := Lib.hid hk1
  clear hk1
  go_wp2_with fail
  go_loopw [11] (fun i wr => ∃ j : Nat, i = .int .i64 (j : Int) ∧ j ≤ n ∧ Hid (((ents l).take j).find? (fun a => a.1 == z) = none) ∧ Hid (Keeps [] w wr)) (fun i _ => n - (intOf i).toNat)
  case atStart => exact ⟨0, rfl, Nat.zero_le _, by simp [Hid], HK1.out⟩
  case round =>
    obtain ⟨j, rfl, hj, HA, HKR⟩ := hrel
    by_cases hlt : j < n
    · obtain ⟨hl, hp, hc9⟩ := EntIn.grow HKR.out HD.out
      obtain ⟨b, o, hA9, hcc⟩ := hc9 (by omega)
      clear hc9
      subst hA9
      obtain ⟨a, hu⟩ : ∃ a, l[j]? = some a := ⟨_, List.getElem?_eq_getElem (by omega)⟩
      obtain ⟨c0, c1⟩ := hcc j a hu
      have hfit := hp a (List.mem_of_getElem? hu)
      have hfn := HF.out.2 a (List.mem_of_getElem? hu)
      have HUE := Lib.hid (ents_at hu)
      obtain ⟨nm, aA, an, ac, avs⟩ := a
      obtain ⟨hnm, hnc, hac, hV⟩ := hfit
      dsimp only at c0 c1 hnm hV hfn
      unfold tv at c0
      have hji : (j : Int) < (n : Int) := by omega
      have HK4 : Hid (Keeps [] wr (wr.alloc (.cells #[.string ⟨nm.toArray⟩, .slice aA an ac] 59))) := (Keeps.refl [] wr).alloc _
      obtain ⟨⟨d0, d1⟩, _⟩ := blk2 (heap_new8 wr (.cells #[.string ⟨nm.toArray⟩, .slice aA an ac] 59))
      obtain ⟨w4, hw4⟩ : ∃ w4, wr.alloc (.cells #[.string ⟨nm.toArray⟩, .slice aA an ac] 59) = w4 := ⟨_, rfl⟩
      rw [hw4] at HK4 d0 d1
      have HCL := Lib.hid (clones_is aA an ac avs w4 (StrsIn.grow HK4.out hV) (by omega))
      have HVL : Hid (avs.length = an) := hV.1
      have HZ : Hid (wr.heap.size ≤ w4.heap.size) := HK4.out.size
      obtain ⟨r, hr⟩ : ∃ r, (nm == z) = r := ⟨_, rfl⟩
      clear hcc hu hp hl hV hnm hnc hac hfn
      cases r
      · have HN2 := Lib.hid (find_none7 HUE.out (show nm ≠ z by simpa using hr) HA.out)
        go_wp2_with fail
        go_roundw
        case rel => exact ⟨j + 1, by go_num, by omega, HN2.out, HKR.out.trans' HK4.out⟩
        case measure => simp [intOf]; omega
      · have heq : nm = z := by simpa using hr
        have HF2 := Lib.hid (find_some7 HUE.out heq HA.out)
        subst heq
        clear hr
        go_wp2_with fail
        refine HCL.out.mono ?_
        rintro e w5 ⟨A5, c5, rfl, ho5, hk5⟩
        have HO5 : Hid (w5.ownsRow w.heap.size 9 1 (.slice A5 an c5) an (avs.map tv)) := own_base7 ho5 (Nat.le_trans HKR.out.size HZ.out)
        have HK5 := Lib.hid (HKR.out.trans' (HK4.out.trans' hk5))
        clear ho5 hk5
        go_wp2_with fail
        go_ret
        have he : cont2 (ents l) nm = avs := by unfold cont2; rw [HF2.out]; rfl
        rw [he]
        unfold ValsQ
        rw [HVL.out]
        exact ⟨A5, c5, rfl, HO5.out, HK5.out⟩
    · obtain rfl : j = n := by omega
      have h9 := HA.out
      rw [List.take_of_length_le (by rw [HEL.out]; exact Nat.le_refl _)] at h9
      have H9 := Lib.hid h9
      clear h9
      go_wp2_with fail
      go_ret
      have he : cont2 (ents l) z = [] := by unfold cont2; rw [H9.out]; rfl
      rw [he]
      exact ⟨none, 0, rfl, World.ownsRow_nil _ _ _ _, HKR.out⟩

def kindP (a b : Nat) : Nat := if b = 0 then 2 else if a = 0 then 1 else 3
theorem kindof_is (A B : Option Addr) (n c m d : Nat) (w : World) :
    Calls Tryz.prog 53 #[.slice A n c, .slice B m d] w fun e w' => e = .returned (.int .i64 (kindP n m : Nat)) ∧ w = w' := by
  unfold kindP
  by_cases h1 : m = 0
  · subst h1
    rw [if_pos rfl]
    go_enter Tryz.func53, Tryz.ntmps53
    go_wp2_with fail
    go_ret
    exact ⟨rfl, rfl⟩
  · rw [if_neg h1]
    have h1' : ¬ (m : Int) = 0 := by omega
    by_cases h2 : n = 0
    · subst h2
      rw [if_pos rfl]
      go_enter Tryz.func53, Tryz.ntmps53
      go_wp2_with fail
      go_ret
      exact ⟨rfl, rfl⟩
    · rw [if_neg h2]
      have h2' : ¬ (n : Int) = 0 := by omega
      go_enter Tryz.func53, Tryz.ntmps53
      go_wp2_with fail
      go_ret
      exact ⟨rfl, rfl⟩
end Go.Proofs.YtebocagkpkpghaaGreatDoor
/- entry: Diff as words, and its changes in memory. -/
namespace Go.Proofs.YtebocagkpkpghaaGreatDoor
open Go.RowKit Go.Shelf
set_option linter.unusedVariables false
set_option linter.unusedSimpArgs false
set_option maxRecDepth 100000

def diffK (a b : List Att) (k : Txt) : Chg7 := ((kindP (cont2 a (smallL k)).length (cont2 b (smallL k)).length : Nat), k, cont2 b (smallL k))
def diffsP (a b : List Att) (ks : List Txt) : List Chg7 := (ks.filter fun k => !(cont2 a (smallL k) == cont2 b (smallL k))).map (diffK a b)
def diffP (a b : List Att) : List Chg7 × Nat := if entOk a = false ∨ entOk b = false then ([], 2) else (diffsP a b (ordS (namesT a ++ namesT b)), 0)
theorem diffs_same {a b : List Att} {ks : List Txt} {j : Nat} {k : Txt} (h : ks[j]? = some k) (he : (cont2 a (smallL k) == cont2 b (smallL k)) = true) : diffsP a b (ks.take (j + 1)) = diffsP a b (ks.take j) := by
  unfold diffsP
  rw [List.take_add_one, h, List.filter_append, List.map_append]
  simp [he]
theorem diffs_more {a b : List Att} {ks : List Txt} {j : Nat} {k : Txt} (h : ks[j]? = some k) (he : (cont2 a (smallL k) == cont2 b (smallL k)) = false) : diffsP a b (ks.take (j + 1)) = diffsP a b (ks.take j) ++ [diffK a b k] := by
  unfold diffsP
  rw [List.take_add_one, h, List.filter_append, List.map_append]
  simp [he]
theorem cont2_in (L : List Att) (k : Txt) : cont2 L k = [] ∨ ∃ a ∈ L, cont2 L k = a.2 := by
  unfold cont2
  cases h : L.find? fun a => a.1 == k with
  | none => exact .inl rfl
  | some a => exact .inr ⟨a, List.mem_of_find?_eq_some h, rfl⟩
theorem cont2_fit {w : World} {A : Option Addr} {n m : Nat} {l : List At7} (h : EntIn w A n l) (hf : Few7 m l) (k : Txt) : (cont2 (ents l) k).length ≤ m ∧ ∀ s ∈ cont2 (ents l) k, s.length ≤ 9223372036854775807 := by
  rcases cont2_in (ents l) k with e | ⟨a, ha, e⟩
  · rw [e]
    simp
  · rw [e]
    unfold ents at ha
    obtain ⟨x, hx, rfl⟩ := List.mem_map.1 ha
    have h9 := (h.2.1 x hx).2.2.2
    exact ⟨by show x.vs.length ≤ m; rw [h9.1]; exact hf.2 x hx, h9.2.1⟩

theorem mod_info7 : (Tryz.prog.info? 49).map (fun i => (i.zero, i.size, i.bytes)) = some (some (.agg #[.int .i64 0, .string ⟨#[]⟩, .slice none 0 0]), 3, 48) := by kernel_rfl
def mdCells (l : List Mod7) : List Value := l.flatMap fun m => [.int .i64 m.k, tv m.a.name, m.a.val]
theorem mdCells_snoc (l : List Mod7) (m : Mod7) : mdCells (l ++ [m]) = mdCells l ++ [.int .i64 m.k, tv m.a.name, m.a.val] := by simp [mdCells]
theorem mdCells_at : ∀ (l : List Mod7) (i : Nat) (m : Mod7), l[i]? = some m → (mdCells l)[i * 3]? = some (.int .i64 m.k) ∧ (mdCells l)[i * 3 + 1]? = some (tv m.a.name) ∧ (mdCells l)[i * 3 + 2]? = some m.a.val
  | [], i, p, h => by simp at h
  | q :: r, 0, p, h => by simp at h; subst h; simp [mdCells]
  | q :: r, i + 1, p, h => by
    have ih := mdCells_at r i p (by simpa using h)
    have e : mdCells (q :: r) = .int .i64 q.k :: tv q.a.name :: q.a.val :: mdCells r := rfl
    rw [e, show (i + 1) * 3 = i * 3 + 1 + 1 + 1 by omega]
    simpa using ih
theorem ModIn.of_own {w : World} {B n c : Nat} {A : Option Addr} {t : TypeId} {l : List Mod7} (h : w.ownsRow B t 3 (.slice A n c) n (mdCells l)) (hn : l.length = n) (hl : ∀ m ∈ l, m.a.fits w) : ModIn w A n l := by
  refine ⟨hn, hl, fun hp => ?_⟩
  rcases h.2 with ⟨_, h2⟩ | ⟨g, cap, cur, hA, hg, hh, r⟩
  · exfalso; omega
  · injection hA with e1 e2 e3
    subst e1
    refine ⟨g, 0, rfl, fun i a hi => ?_⟩
    obtain ⟨d1, d2, d3⟩ := mdCells_at l i a hi
    have c1 := h.cells (g := g) rfl (i * 3) _ d1
    have c2 := h.cells (g := g) rfl (i * 3 + 1) _ d2
    have c3 := h.cells (g := g) rfl (i * 3 + 2) _ d3
    rw [add_at] at c1 c2 c3
    exact ⟨c1, c2, c3⟩
/-- A row of other cells that grows turns no row of Values. -/
theorem RowOk.besides {w w' : World} {base base' size : Nat} {t : TypeId} (ht : t ≠ 9) {a : At7} {A : Option Addr} {n c : Nat} {xs : List Value} (h : RowOk w base a) (hr : w.ownsRow base' t size (.slice A n c) n xs) (hg : w.grownBy w' (Value.slice A n c).ownBlock) : RowOk w' base a := by
  refine h.keep (bs := (Value.slice A n c).ownBlock.toList) (Keeps.of_grown hg (fun x hx => .inl (by rw [hx]; simp))) (fun g h1 h2 => ?_)
  obtain ⟨cs, h3⟩ := own_cells2 hr g (by simpa using h2)
  obtain ⟨cs', h4⟩ := own_cells h.row g h1
  rw [h3] at h4
  injection h4 with h4
  injection h4 with _ h4 _
  exact absurd h4 ht
/-- What a round of Diff's loop finds. -/
structure ModS (w wr : World) (A : Option Addr) (j c : Nat) (L : List Mod7) (e : List Chg7) : Prop where
  mods : modsOf L = e
  len : L.length = j
  row : wr.ownsRow w.heap.size 49 3 (.slice A j c) j (mdCells L)
  rows : ∀ m ∈ L, RowOk wr w.heap.size m.a
  keep : Keeps [] w wr
theorem src_md7 (w : World) (m : Mod7) (t : TypeId) : Src (w.alloc (.cells #[.int .i64 m.k, tv m.a.name, m.a.val] t)) (some ⟨w.heap.size, 0, none⟩) 1 [.int .i64 m.k, tv m.a.name, m.a.val] := by
  refine ⟨(fun h => by cases h), fun ad hA j u hu => ?_⟩
  cases hA
  rw [add_at, Nat.zero_add, World.cell?_alloc_new]
  simpa using hu
/-- Changes in memory, as a call's answer. -/
def ModQ (e : List Chg7) (A : Option Addr) (n c : Nat) (w' : World) : Prop :=
  ∃ L, modsOf L = e ∧ ModIn w' A n L ∧ n ≤ c ∧ c ≤ 9223372036854775807 ∧ ∀ m ∈ L, m.a.vs.length = m.a.n
def DifQ (p : List Chg7 × Nat) (w : World) (e : Ending) (w' : World) : Prop :=
  ∃ A n c, e = .returned (.tuple #[.slice A n c, .int .i64 (p.2 : Int)]) ∧ ModQ p.1 A n c w' ∧ Keeps [] w w'
theorem DifQ.no {n : Nat} {w w' : World} (h : Keeps [] w w') : DifQ ([], n) w (.returned (.tuple #[.slice none 0 0, .int .i64 (n : Int)])) w' :=
  ⟨none, 0, 0, rfl, ⟨[], rfl, ⟨rfl, by simp, fun h => by omega⟩, Nat.le_refl _, by omega, by simp⟩, h⟩
theorem ModS.done {w wr : World} {A : Option Addr} {j c : Nat} {L : List Mod7} {e : List Chg7} (h : ModS w wr A j c L e) : ModQ e A j c wr :=
  ⟨L, h.mods, ModIn.of_own h.row h.len (fun m hm => (h.rows m hm).fits), (own_caps h.row).1, (own_caps h.row).2, fun m hm => (h.rows m hm).len⟩
end Go.Proofs.YtebocagkpkpghaaGreatDoor
/- entry: Diff; walked. -/
namespace Go.Proofs.YtebocagkpkpghaaGreatDoor
open Go.RowKit Go.Shelf
set_option linter.unusedVariables false
set_option linter.unusedSimpArgs false
set_option maxRecDepth 100000

set_option maxHeartbeats 8000000 in
theorem diff_is (A B : Option Addr) (n c m d : Nat) (l l2 : List At7) (w : World) (h : EntIn w A n l) (hf : Few7 1000 l) (h2 : EntIn w B m l2) (hf2 : Few7 1000 l2) :
    Calls Tryz.prog 22 #[.slice A n c, .slice B m d] w (DifQ (diffP (ents l) (ents l2)) w) := by
  obtain ⟨iu, hiu, hzu0, hzu1, hzu2⟩ := info_parts mod_info7
  have hn : n ≤ 1000 := by rw [← h.1]; exact hf.1
  have hm : m ≤ 1000 := by rw [← h2.1]; exact hf2.1
  have HE1 := Lib.hid h
  have HE2 := Lib.hid h2
  have HF1 := Lib.hid hf
  have HF2 := Lib.hid hf2
  have f1 : Few7 100000 l := ⟨by have := hf.1; omega, fun a ha => by have := hf.2 a ha; omega⟩
  have f2 : Few7 100000 l2 := ⟨by have := hf2.1; omega, fun a ha => by have := hf2.2 a ha; omega⟩
  have HC1 := Lib.hid (fun X (hX : Keeps [] w X) => check7_is A n c l X (EntIn.grow hX h) f1)
  have HC2 := Lib.hid (fun X (hX : Keeps [] w X) => check7_is B m d l2 X (EntIn.grow hX h2) f2)
  have HN1 := Lib.hid (fun X (hX : Keeps [] w X) => namesof_is A n c l X (EntIn.grow hX h) (by omega))
  have HN2 := Lib.hid (fun X (hX : Keeps [] w X) => namesof_is B m d l2 X (EntIn.grow hX h2) (by omega))
  have HG1 := Lib.hid (fun X v (hX : Keeps [] w X) hv => get_is A n c l v X (EntIn.grow hX h) f1 hv)
  have HG2 := Lib.hid (fun X v (hX : Keeps [] w X) hv => get_is B m d l2 v X (EntIn.grow hX h2) f2 hv)
  have HL1 : Hid ((namesT (ents l)).length = n ∧ ∀ s ∈ namesT (ents l), s.length ≤ 9223372036854775807) := by
    refine ⟨by simp [namesT, ents, h.1], fun s hs => ?_⟩
    simp only [namesT, ents, List.map_map, List.mem_map] at hs
    obtain ⟨a, ha, rfl⟩ := hs
    exact (h.2.1 a ha).1
  have HL2 : Hid ((namesT (ents l2)).length = m ∧ ∀ s ∈ namesT (ents l2), s.length ≤ 9223372036854775807) := by
    refine ⟨by simp [namesT, ents, h2.1], fun s hs => ?_⟩
    simp only [namesT, ents, List.map_map, List.mem_map] at hs
    obtain ⟨a, ha, rfl⟩ := hs
    exact (h2.2.1 a ha).1
  have HCF1 := Lib.hid (fun k => cont2_fit h hf k)
  have HCF2 := Lib.hid (fun k => cont2_fit h2 hf2 k)
  obtain ⟨P, hP⟩ : ∃ P, diffP (ents l) (ents l2) = P := ⟨_, rfl⟩
  rw [hP]
  unfold diffP at hP
  have HP := Lib.hid hP
  obtain ⟨q1, hq1⟩ : ∃ q, entOk (ents l) = q := ⟨_, rfl⟩
  obtain ⟨q2, hq2⟩ : ∃ q, entOk (ents l2) = q := ⟨_, rfl⟩
  rw [hq1] at HC1 HP
  rw [hq2] at HC2 HP
  clear h hf h2 hf2 hP hq1 hq2 f1 f2
  cases q1
  · have HPN : Hid (P = ([], 2)) := by show _ = _; rw [← HP.out, if_pos (.inl rfl)]
    rw [if_neg (by decide)] at HC1
    go_enter Tryz.func22, Tryz.ntmps22
    go_wp2_with fail
    refine wp_scope_once 0 rfl ?_
    go_wp2_with fail
    refine (HC1.out _ (Keeps.refl _ _)).mono ?_
    rintro e w1 ⟨rfl, hk1⟩
    have HK1 := Lib.hid hk1
    clear hk1
    go_wp2_with fail
    go_step3
    refine ⟨rfl, ?_⟩
    go_wp2
    rw [Exit.noGoto_ret]
    refine bodyPost_ret (results_tmp2 rfl _ _ _) rfl ?_
    rw [HPN.out]
    exact DifQ.no HK1.out
  · rw [if_pos rfl] at HC1
    go_enter Tryz.func22, Tryz.ntmps22
    go_wp2_with fail
    refine wp_scope_once 0 rfl ?_
    go_wp2_with fail
    refine (HC1.out _ (Keeps.refl _ _)).mono ?_
    rintro e w1 ⟨rfl, hk1⟩
    have HK1 := Lib.hid hk1
    clear hk1
    go_wp2_with fail
    refine (HC2.out _ HK1.out).mono ?_
    rintro e w2 ⟨rfl, hk2⟩
    have HK2 := Lib.hid (HK1.out.trans' hk2)
    clear hk2
    cases q2
    · have HPN : Hid (P = ([], 2)) := by show _ = _; rw [← HP.out, if_pos (.inr rfl)]
      rw [if_neg (by decide)]
      go_wp2_with fail
      go_step3
      refine ⟨rfl, ?_⟩
      go_wp2
      rw [Exit.noGoto_ret]
      refine bodyPost_ret (results_tmp2 rfl _ _ _) rfl ?_
      rw [HPN.out]
      exact DifQ.no HK2.out
    · rw [if_pos rfl]
      have HPY : Hid (P = (diffsP (ents l) (ents l2) (ordS (namesT (ents l) ++ namesT (ents l2))), 0)) := by show _ = _; rw [← HP.out, if_neg (by simp)]
      clear HP HC1 HC2
      go_wp2_with fail
      refine (HN1.out _ HK2.out).mono ?_
      rintro e w3 ⟨A3, c3, rfl, ho3, hk3⟩
      have HK3 := Lib.hid (HK2.out.trans' hk3)
      have HS3 := Lib.hid (StrsIn.of_own ho3 HL1.out.1 HL1.out.2)
      clear ho3 hk3
      go_wp2_with fail
      refine (HN2.out _ HK3.out).mono ?_
      rintro e w4 ⟨A4, c4, rfl, ho4, hk4⟩
      have HK4 := Lib.hid (HK3.out.trans' hk4)
      have HR4 := Lib.hid (two_rows w4 ⟨[], A3, n, c3, namesT (ents l)⟩ ⟨[], A4, m, c4, namesT (ents l2)⟩ (StrsIn.grow hk4 HS3.out) (StrsIn.of_own ho4 HL2.out.1 HL2.out.2))
      have HK5 : Hid (Keeps [] w (w4.alloc (.cells #[.slice A3 n c3, .slice A4 m c4] 40))) := HK4.out.alloc _
      have hz : w4.heap.size = w4.heap.size := rfl
      have hCO := concats_is w4.heap.size 2 [⟨[], A3, n, c3, namesT (ents l)⟩, ⟨[], A4, m, c4, namesT (ents l2)⟩] (w4.alloc (.cells #[.slice A3 n c3, .slice A4 m c4] 40)) rfl (by omega) HR4.out (by simp [totS]; omega)
      have e1 : totS [⟨[], A3, n, c3, namesT (ents l)⟩, ⟨[], A4, m, c4, namesT (ents l2)⟩] = n + m := by simp [totS]
      have e2 : flatS [⟨[], A3, n, c3, namesT (ents l)⟩, ⟨[], A4, m, c4, namesT (ents l2)⟩] = namesT (ents l) ++ namesT (ents l2) := by simp [flatS]
      rw [e1, e2] at hCO
      have HCO := Lib.hid hCO
      obtain ⟨all, hall⟩ : ∃ all, namesT (ents l) ++ namesT (ents l2) = all := ⟨_, rfl⟩
      have HAL : Hid (all.length = n + m ∧ ∀ s ∈ all, s.length ≤ 9223372036854775807) := by
        refine ⟨by rw [← hall, List.length_append, HL1.out.1, HL2.out.1], fun s hs => ?_⟩
        rw [← hall] at hs
        rcases List.mem_append.1 hs with hs | hs
        · exact HL1.out.2 s hs
        · exact HL2.out.2 s hs
      rw [hall] at HCO HPY
      obtain ⟨nm2, hnm2⟩ : ∃ q, n + m = q := ⟨_, rfl⟩
      rw [hnm2] at HCO HAL
      have hnb : nm2 ≤ 2000 := by omega
      clear ho4 hk4 hz hCO e1 e2 hall hnm2
      go_wp2_with fail
      refine HCO.out.mono ?_
      rintro e w6 ⟨A6, c6, rfl, ho6, hk6⟩
      have HK6 := Lib.hid (HK5.out.trans' hk6)
      have HOR := Lib.hid (ordered_is A6 nm2 c6 all w6 (StrsIn.of_own ho6 HAL.out.1 HAL.out.2) (by omega))
      unfold OrdQ at HOR
      have hol := ordS_len all
      have HOT : Hid (∀ s ∈ ordS all, s.length ≤ 9223372036854775807) := fun s hs => HAL.out.2 s (((ordS_is all).2 s).1 hs)
      obtain ⟨ks, hks⟩ : ∃ ks, ordS all = ks := ⟨_, rfl⟩
      rw [hks] at HOR HPY hol HOT
      rw [HAL.out.1] at hol
      obtain ⟨kn, hkn⟩ : ∃ kn, ks.length = kn := ⟨_, rfl⟩
      have HKN := Lib.hid hkn
      rw [hkn] at HOR hol
      clear ho6 hk6 hks hkn HCO HN1 HN2
      go_wp2_with fail
      refine HOR.out.mono ?_
      rintro e w7 ⟨A7, c7, rfl, ho7, hk7⟩
      have HK7 := Lib.hid (HK6.out.trans' hk7)
      have HS7 := Lib.hid (StrsIn.of_own ho7 HKN.out HOT.out)
      clear ho7 hk7 HOR
      go_wp2_with fail
      go_loopw [6, 27] (fun v i wr => ∃ (A' : Option Addr) (c' q j : Nat) (L : List Mod7), v = .slice A' q c' ∧ i = .int .i64 (j : Int) ∧ j ≤ kn ∧ q ≤ j ∧ Hid (ModS w7 wr A' q c' L (diffsP (ents l) (ents l2) (ks.take j)))) (fun _ i _ => kn - (intOf i).toNat)
      case atStart => exact ⟨none, 0, 0, 0, [], rfl, rfl, Nat.zero_le _, Nat.le_refl _, rfl, rfl, World.ownsRow_nil _ _ _ _, by simp, Keeps.refl _ _⟩
      case round =>
        obtain ⟨A', c', q, j, L, rfl, rfl, hj, hqj, HS⟩ := hrel
        by_cases hlt : j < kn
        · obtain ⟨hl, hp, hc9⟩ := StrsIn.grow HS.out.keep HS7.out
          obtain ⟨b1, o, hA9, hcc⟩ := hc9 (by omega)
          clear hc9
          subst hA9
          obtain ⟨k, hu⟩ : ∃ k, ks[j]? = some k := ⟨_, List.getElem?_eq_getElem (by omega)⟩
          have c0 := hcc j k hu
          have hkl := hp k (List.mem_of_getElem? hu)
          have HKL := Lib.hid hkl
          have HD1 := Lib.hid (fun he => diffs_same (a := ents l) (b := ents l2) hu he)
          have HD2 := Lib.hid (fun he => diffs_more (a := ents l) (b := ents l2) hu he)
          have HKW : Hid (Keeps [] w wr) := HK7.out.trans' HS.out.keep
          have HGA := Lib.hid (HG1.out wr k HKW.out hkl)
          have HGB := Lib.hid (fun X (hX : Keeps [] w X) => HG2.out X k hX hkl)
          have HV1 := Lib.hid (HCF1.out (smallL k))
          have HV2 := Lib.hid (HCF2.out (smallL k))
          unfold diffK at HD2
          unfold ValsQ at HGA HGB
          obtain ⟨va, hva⟩ : ∃ v, cont2 (ents l) (smallL k) = v := ⟨_, rfl⟩
          obtain ⟨vb, hvb⟩ : ∃ v, cont2 (ents l2) (smallL k) = v := ⟨_, rfl⟩
          rw [hva] at HD1 HD2 HGA HV1
          rw [hvb] at HD1 HD2 HGB HV2
          obtain ⟨an, han⟩ : ∃ n, va.length = n := ⟨_, rfl⟩
          obtain ⟨bn, hbn⟩ : ∃ n, vb.length = n := ⟨_, rfl⟩
          have HAN := Lib.hid han
          have HBN := Lib.hid hbn
          rw [han] at HD2 HGA HV1
          rw [hbn] at HD2 HGB HV2
          have ha1 := HV1.out.1
          have hb1 := HV2.out.1
          unfold tv at c0 HGA HGB
          have hji : (j : Int) < (kn : Int) := by omega
          clear hcc hu hp hl hkl hva hvb han hbn
          go_wp2_with fail
          refine HGA.out.mono ?_
          rintro e x1 ⟨B1, d1, rfl, ho1, hk1⟩
          have HS1 := Lib.hid (StrsIn.of_own ho1 HAN.out HV1.out.2)
          have HX1 := Lib.hid hk1
          clear ho1 hk1
          go_wp2_with fail
          refine (HGB.out _ (HKW.out.trans' HX1.out)).mono ?_
          rintro e x2 ⟨B2, d2, rfl, ho2, hk2⟩
          have HX2 := Lib.hid (HX1.out.trans' hk2)
          have HO2 : Hid (x2.ownsRow w7.heap.size 9 1 (.slice B2 bn d2) bn (vb.map tv)) := own_base7 ho2 (HS.out.keep.trans' HX1.out).size
          have HEQ := Lib.hid (equals_is B1 B2 an bn d1 d2 va vb x2 (StrsIn.grow hk2 HS1.out) (StrsIn.of_own ho2 HBN.out HV2.out.2) (by omega))
          obtain ⟨r, hr⟩ : ∃ r, (va == vb) = r := ⟨_, rfl⟩
          rw [hr] at HEQ HD1 HD2
          clear ho2 hk2 hr
          go_wp2_with fail
          refine HEQ.out.mono ?_
          rintro e x3 ⟨rfl, hk3⟩
          have HX3 := Lib.hid (HX2.out.trans' hk3)
          have HO3 := Lib.hid (own_keep HO2.out hk3 (by simp))
          clear hk3 HEQ
          cases r
          · have hKN := fun X => kindof_is B1 B2 an d1 bn d2 X
            have HKI := Lib.hid hKN
            obtain ⟨kd, hkd⟩ : ∃ kd, kindP an bn = kd := ⟨_, rfl⟩
            rw [hkd] at HKI HD2
            have HB3 : Hid (w7.heap.size ≤ (x3.alloc (.cells #[.int .i64 (kd : Int), tv k, .slice B2 bn d2] 49)).heap.size) := by
              have h9 := (HS.out.keep.trans' HX3.out).size
              show _ ≤ _
              simp
              omega
            have hq5 : q ≤ 2000 := by omega
            clear hKN hkd
            go_wp2_with fail
            refine (HKI.out _).mono ?_
            rintro e x4 ⟨rfl, rfl⟩
            go_wp2_with (at_builtin; refine wpList_append_opt rfl (.tmp 41) (.tmp 48) 24 rfl w7.heap.size 49 iu _ 3 48 Tryz.underlying24 hiu hzu0 hzu1 hzu2 rfl (by decide) (.slice A' q c') q (mdCells L) rfl (own_keep HS.out.row (HX3.out.alloc _) (by simp)) (some ⟨x3.heap.size, 0, none⟩) 1 1 [.int .i64 (kd : Int), tv k, .slice B2 bn d2] rfl rfl (src_md7 x3 ⟨(kd : Int), ⟨k, B2, bn, d2, vb⟩⟩ _) (by intro u hu; simp at hu; rcases hu with rfl | rfl | rfl <;> rfl) (by unfold maxLen; omega) (by omega) HB3.out ?_; intro v6 w8 ho hg6 hs6; obtain ⟨A8, c8, hv6⟩ := own_slice ho; subst hv6; have HO8 := Lib.hid ho; have HG8 := Lib.hid hg6; clear ho hg6 hs6)
            have HK8 : Hid (Keeps [] w7 w8) := keeps_own7 (own_keep HS.out.row (HX3.out.alloc (.cells #[.int .i64 (kd : Int), tv k, .slice B2 bn d2] 49)) (by simp)) (HS.out.keep.trans' (HX3.out.alloc _)) HG8.out
            have HNX : Hid (ModS w7 w8 A8 (q + 1) c8 (L ++ [⟨(kd : Int), ⟨k, B2, bn, d2, vb⟩⟩]) (diffsP (ents l) (ents l2) (ks.take (j + 1)))) := by
              have hrow4 := own_keep HS.out.row (HX3.out.alloc (.cells #[.int .i64 (kd : Int), tv k, .slice B2 bn d2] 49)) (by simp)
              refine ⟨?_, by rw [List.length_append, HS.out.len]; rfl, by rw [mdCells_snoc]; exact HO8.out, fun x hx => ?_, HK8.out⟩
              · rw [HD2.out (by first | exact trivial | rfl), ← HS.out.mods]
                simp [modsOf, Mod7.mod, At7.att]
              · rcases List.mem_append.1 hx with hx | hx
                · exact ((HS.out.rows x hx).keep (HX3.out.alloc _) (by simp)).besides (by decide) hrow4 HG8.out
                · simp at hx
                  subst hx
                  have hro5 : RowOk (x3.alloc (.cells #[.int .i64 (kd : Int), tv k, .slice B2 bn d2] 49)) w7.heap.size ⟨k, B2, bn, d2, vb⟩ := ⟨own_keep HO3.out ((Keeps.refl [] x3).alloc _) (by simp), HBN.out, HV2.out.2, HKL.out⟩
                  exact hro5.besides (by decide) hrow4 HG8.out
            go_roundw
            case rel => exact ⟨A8, c8, q + 1, j + 1, _, rfl, by go_num, by omega, by omega, HNX.out⟩
            case measure => simp [intOf]; omega
          · have HNX : Hid (ModS w7 x3 A' q c' L (diffsP (ents l) (ents l2) (ks.take (j + 1)))) := by
              show ModS _ _ _ _ _ _ _
              rw [HD1.out (by first | exact trivial | rfl)]
              exact ⟨HS.out.mods, HS.out.len, own_keep HS.out.row HX3.out (by simp), fun x hx => (HS.out.rows x hx).keep HX3.out (by simp), HS.out.keep.trans' HX3.out⟩
            go_wp2_with fail
            go_roundw
            case rel => exact ⟨A', c', q, j + 1, L, rfl, by go_num, by omega, by omega, HNX.out⟩
            case measure => simp [intOf]; omega
        · obtain rfl : j = kn := by omega
          have h9 := HS.out
          rw [List.take_of_length_le (by rw [HKN.out]; exact Nat.le_refl _)] at h9
          have H9 := Lib.hid h9
          clear h9
          go_wp2_with fail
          simp only [Exit.jump]
          refine bodyPost_ret (results_tmp2 rfl _ _ _) rfl ?_
          rw [HPY.out]
          exact ⟨A', q, c', rfl, H9.out.done, HK7.out.trans' H9.out.keep⟩
end Go.Proofs.YtebocagkpkpghaaGreatDoor
