/- Texts of one proof, laid together: W12 W13 W14. -/
import Derived.Test.YtebocagkpkpghaaGreatDoorM79
/- entry: slices.DeleteFunc; walked. -/
namespace Go.Proofs.YtebocagkpkpghaaGreatDoor
open Go.RowKit Go.Shelf
set_option linter.unusedVariables false
set_option linter.unusedSimpArgs false
set_option maxRecDepth 100000

/-- The Values that stay. -/
def stayP (told l : List Txt) : List Txt := l.filter fun v => !goesP told v
theorem stay_all {told l : List Txt} (h : ∀ v ∈ l, goesP told v = false) : stayP told l = l := by
  unfold stayP
  rw [List.filter_eq_self]
  intro v hv
  rw [h v hv]
  rfl
theorem stay_len (told l : List Txt) : (stayP told l).length ≤ l.length := List.length_filter_le _ _
/-- What lies in the row while it is cut: how many stay of so many that were looked at. -/
structure DelS (told l row : List Txt) (i j : Nat) : Prop where
  len : row.length = l.length
  front : row.take i = stayP told (l.take j)
  rest : row.drop j = l.drop j
  le : i ≤ j
  lt : i < l.length
theorem DelS.first {told l : List Txt} {i : Nat} {v : Txt} (h : l[i]? = some v) (hg : goesP told v = true) (ha : ∀ x ∈ l.take i, goesP told x = false) : DelS told l l i (i + 1) := by
  have hlt : i < l.length := by
    rcases Nat.lt_or_ge i l.length with h1 | h1
    · exact h1
    · rw [List.getElem?_eq_none h1] at h
      cases h
  refine ⟨rfl, ?_, rfl, by omega, hlt⟩
  have h1 : stayP told (l.take (i + 1)) = stayP told (l.take i) := by
    unfold stayP
    rw [List.take_add_one, h, List.filter_append]
    simp [hg]
  rw [h1, stay_all ha]
theorem DelS.at_ {told l row : List Txt} {i j : Nat} (h : DelS told l row i j) {s : Txt} (hs : l[j]? = some s) : row[j]? = some s := by
  have h1 : (row.drop j)[0]? = (l.drop j)[0]? := by rw [h.rest]
  rw [List.getElem?_drop, List.getElem?_drop, Nat.add_zero] at h1
  rw [h1, hs]
theorem drop_next {l m : List Txt} {j : Nat} (h : l.drop j = m.drop j) : l.drop (j + 1) = m.drop (j + 1) := by
  rw [← List.drop_drop, ← List.drop_drop, h]
theorem DelS.gone {told l row : List Txt} {i j : Nat} (h : DelS told l row i j) {s : Txt} (hs : l[j]? = some s) (hg : goesP told s = true) : DelS told l row i (j + 1) := by
  refine ⟨h.len, ?_, drop_next h.rest, by have := h.le; omega, h.lt⟩
  rw [h.front]
  unfold stayP
  rw [List.take_add_one, hs, List.filter_append]
  simp [hg]
theorem stay_more {told : List Txt} : ∀ {l : List Txt} {j : Nat} {s : Txt}, l[j]? = some s → goesP told s = false → (∃ x ∈ l, goesP told x = true) → (stayP told (l.take (j + 1))).length < l.length
  | [], j, s, h, _, _ => by simp at h
  | x :: l, j, s, h, hg, hx => by
    obtain ⟨y, hy, hyg⟩ := hx
    have h1 : (stayP told ((x :: l).take (j + 1))).length ≤ (stayP told (x :: l)).length := by
      unfold stayP
      exact ((List.take_sublist _ _).filter _).length_le
    have h2 : (stayP told (x :: l)).length < (x :: l).length := by
      unfold stayP
      refine Nat.lt_of_le_of_ne (List.length_filter_le _ _) (fun e => ?_)
      rw [List.length_filter_eq_length_iff] at e
      have := e y hy
      rw [hyg] at this
      cases this
    omega
theorem DelS.stays {told l row : List Txt} {i j : Nat} (h : DelS told l row i j) {s : Txt} (hs : l[j]? = some s) (hg : goesP told s = false) (hx : ∃ x ∈ l, goesP told x = true) : DelS told l (row.set i s) (i + 1) (j + 1) := by
  have h1 : stayP told (l.take (j + 1)) = stayP told (l.take j) ++ [s] := by
    unfold stayP
    rw [List.take_add_one, hs, List.filter_append]
    simp [hg]
  have h2 := stay_more hs hg hx
  have h3 : (row.take i).length = i := by rw [List.length_take, h.len]; have := h.lt; omega
  rw [h1, List.length_append, ← h.front, h3] at h2
  refine ⟨by rw [List.length_set]; exact h.len, ?_, ?_, by have := h.le; omega, by simpa using h2⟩
  · rw [h1, ← h.front, List.take_add_one, List.take_set_of_le (Nat.le_refl _)]
    congr 1
    rw [List.getElem?_set_self (by rw [h.len]; exact h.lt)]
    rfl
  · rw [List.drop_set_of_lt (by have := h.le; omega)]
    exact drop_next h.rest
theorem DelS.done {told l row : List Txt} {i : Nat} (h : DelS told l row i l.length) : row.take i = stayP told l ∧ (stayP told l).length = i := by
  have h1 := h.front
  rw [List.take_length] at h1
  exact ⟨h1, by rw [← h1, List.length_take, h.len]; have := h.lt; omega⟩

theorem own_sets {base n d gb : Nat} {e : TypeId} : ∀ (vs : List Value) (off : Nat) {X : World} {xs : List Value} (k : Nat) (hk : k ≤ off), X.ownsRow base e 1 (.slice (some ⟨gb, 0, none⟩) n d) n xs →
    ∃ ys, (X.setCells gb off vs).ownsRow base e 1 (.slice (some ⟨gb, 0, none⟩) n d) n ys ∧ ys.take k = xs.take k ∧ ys.length = xs.length
  | [], off, X, xs, k, hk, h => ⟨xs, h, rfl, rfl⟩
  | v :: vs, off, X, xs, k, hk, h => by
    obtain ⟨ys, h1, h2, h3⟩ := own_sets vs (off + 1) k (by omega) (h.stored off v).1
    refine ⟨ys, h1, ?_, by rw [h3, List.length_set]⟩
    rw [h2, List.take_set_of_le hk]
theorem keeps_sets {bs : List Nat} {a : World} {gb : Nat} (hb : gb ∈ bs ∨ a.heap.size ≤ gb) : ∀ (vs : List Value) (off : Nat) {X : World}, Keeps bs a X → Keeps bs a (X.setCells gb off vs)
  | [], off, X, h => h
  | v :: vs, off, X, h => keeps_sets hb vs (off + 1) (h.setCell (p := ⟨gb, off, none⟩) hb v)
theorem StrsIn.keepN {w w' : World} {A : Option Addr} {n : Nat} {l : List Txt} {bs : List Nat} (hk : Keeps bs w w') (h : StrsIn w A n l) (hb : 0 < n → ∀ b o, A = some ⟨b, o, none⟩ → b ∉ bs) : StrsIn w' A n l := by
  obtain ⟨h1, h2, h3⟩ := h
  refine ⟨h1, h2, fun hp => ?_⟩
  obtain ⟨b, o, e, hc⟩ := h3 hp
  exact ⟨b, o, e, fun i s hi => (hk.cell (lt_of_cell (hc i s hi)) (hb hp b o e)).trans (hc i s hi)⟩
end Go.Proofs.YtebocagkpkpghaaGreatDoor
/- entry: slices.DeleteFunc; walked. -/
namespace Go.Proofs.YtebocagkpkpghaaGreatDoor
open Go.RowKit Go.Shelf
set_option linter.unusedVariables false
set_option linter.unusedSimpArgs false
set_option maxRecDepth 100000

set_option maxHeartbeats 4000000 in
theorem deletefunc_is (B : Nat) (TA A : Option Addr) (tn tc n c base : Nat) (told l : List Txt) (w0 w : World) (hk0 : Keeps [] w0 w) (hb0 : w0.heap.size ≤ base) (hB : w.cell? ⟨B, 0, none⟩ = some (.slice TA tn tc)) (hBb : B < base)
    (ht : StrsIn w TA tn told) (htb : 0 < tn → ∀ b o, TA = some ⟨b, o, none⟩ → b < base) (htn : tn ≤ 1000000)
    (h : w.ownsRow base 9 1 (.slice A n c) n (l.map tv)) (hl : l.length = n) (htx : ∀ s ∈ l, s.length ≤ 9223372036854775807) (hn : n ≤ 1000000) :
    Calls Tryz.prog 96 #[.slice A n c, .func (.func 94) #[] #[.pointer (some ⟨B, 0, none⟩)]] w fun e w' =>
      e = .returned (.slice A (stayP told l).length c) ∧ w'.ownsRow base 9 1 (.slice A (stayP told l).length c) (stayP told l).length ((stayP told l).map tv) ∧ w'.cell? ⟨B, 0, none⟩ = some (.slice TA tn tc) ∧ Keeps [] w0 w' := by
  have HX := Lib.hid (indexfunc_is B TA A tn tc n c told l w hB ht htn (StrsIn.of_own h hl htx) hn)
  have HOW := Lib.hid h
  have HB := Lib.hid hB
  have HT := Lib.hid ht
  have HTB := Lib.hid htb
  have HK := Lib.hid hk0
  have HTX := Lib.hid htx
  have HLL := Lib.hid hl
  obtain ⟨P, hP⟩ : ∃ P, stayP told l = P := ⟨_, rfl⟩
  rw [hP]
  have HP := Lib.hid hP
  clear h hB ht htb hk0 htx hl hP
  go_enter Tryz.func96, Tryz.ntmps96
  go_wp2_with fail
  refine HX.out.mono ?_
  rintro e w1 ⟨hr, rfl⟩
  rcases hr with ⟨hall, rfl⟩ | ⟨i0, v0, hi0, hg0, ha0, rfl⟩
  · have HPL : Hid (P = l ∧ l.length = n) := ⟨by rw [← HP.out]; exact stay_all hall, HLL.out⟩
    clear hall
    go_wp2_with fail
    go_ret
    rw [HPL.out.1, HPL.out.2]
    exact ⟨rfl, HOW.out, HB.out, HK.out⟩
  · have HD0 := Lib.hid (DelS.first hi0 hg0 ha0)
    have HEX : Hid (∃ x ∈ l, goesP told x = true) := ⟨v0, List.mem_of_getElem? hi0, hg0⟩
    have hlt0 : i0 < n := by rw [← HLL.out]; exact HD0.out.lt
    obtain ⟨g, hg⟩ : ∃ g, A = some ⟨g, 0, none⟩ ∧ base ≤ g ∧ n ≤ c ∧ c ≤ maxLen := by
      rcases HOW.out.2 with ⟨_, h2⟩ | ⟨g, cap, cur, hA, hg, hh, hnc, hcm, r⟩
      · omega
      · injection hA with e1 e2 e3
        exact ⟨g, e1, hg, by omega, by omega⟩
    obtain ⟨hA, hgb, hnc, hcm⟩ := hg
    unfold maxLen at hcm
    subst hA
    clear hi0 hg0 ha0
    have hi9 : (0 : Int) ≤ (i0 : Int) := by omega
    have hib : ((i0 : Int) == -1) = false := by simp
    have hin : ¬ (i0 : Int) = -1 := by omega
    go_wp2_with fail
    go_loopw [5, 6] (fun i k wr => ∃ (q j : Nat) (row : List Txt), i = .int .i64 (q : Int) ∧ k = .int .i64 (j : Int) ∧ j ≤ n ∧ Hid (DelS told l row q j) ∧ Hid (wr.ownsRow base 9 1 (.slice (some ⟨g, 0, none⟩) n c) n (row.map tv)) ∧ Hid (Keeps [g] w wr)) (fun _ k _ => n - (intOf k).toNat)
    case atStart => exact ⟨i0, i0 + 1, l, rfl, by go_num, by omega, HD0.out, HOW.out, Keeps.refl _ _⟩
    case round =>
      obtain ⟨q, j, row, rfl, rfl, hj, HD, HO, HKR⟩ := hrel
      have hql : q < n := by rw [← HLL.out]; exact HD.out.lt
      have hqj := HD.out.le
      have hq0 : (0 : Int) ≤ (q : Int) := by omega
      have hqn : (q : Int) < (n : Int) := by omega
      have hqn2 : (q : Int) ≤ (n : Int) := by omega
      have hnc2 : (n : Int) ≤ (c : Int) := by omega
      have hqc : (q : Int) ≤ (c : Int) := by omega
      have HBW : Hid (wr.cell? ⟨B, 0, none⟩ = some (.slice TA tn tc)) := (HKR.out.cell (lt_of_cell HB.out) (by simp; omega)).trans HB.out
      have HTW : Hid (StrsIn wr TA tn told) := StrsIn.keepN HKR.out HT.out (fun h9 b o e9 => by have := HTB.out h9 b o e9; simp; omega)
      by_cases hlt : j < n
      · obtain ⟨s, hu⟩ : ∃ s, l[j]? = some s := ⟨_, List.getElem?_eq_getElem (by rw [HLL.out]; omega)⟩
        have hrs := HD.out.at_ hu
        have c0 : wr.cell? ⟨g, j, none⟩ = some (tv s) := by
          rw [HO.out.cellAt j (by omega), List.getElem?_map, hrs]
          rfl
        obtain ⟨u, hu2⟩ : ∃ u, row[q]? = some u := ⟨_, List.getElem?_eq_getElem (by rw [HD.out.len, HLL.out]; omega)⟩
        have c1 : wr.cell? ⟨g, q, none⟩ = some (tv u) := by
          rw [HO.out.cellAt q (by omega), List.getElem?_map, hu2]
          rfl
        have f1 : wr.frozen? ⟨g, q, none⟩ = false := HO.out.frozenAt q
        have HG := Lib.hid (goes_is B TA tn tc told s wr HBW.out HTW.out htn)
        have hsl : s.length ≤ 9223372036854775807 := HTX.out s (List.mem_of_getElem? hu)
        have HU := Lib.hid hu
        obtain ⟨r, hr⟩ : ∃ r, goesP told s = r := ⟨_, rfl⟩
        rw [hr] at HG
        have HR := Lib.hid hr
        unfold tv at c0 c1 HG
        have hji : (j : Int) < (n : Int) := by omega
        have hj0 : 0 ≤ (j : Int) := by omega
        clear hu hu2 hrs hr
        go_wp2_with fail
        refine HG.out.mono ?_
        rintro e w2 ⟨rfl, rfl⟩
        cases r
        · have HD2 := Lib.hid (HD.out.stays HU.out HR.out HEX.out)
          have HO2 : Hid ((wr.setCell ⟨g, q, none⟩ (.string ⟨s.toArray⟩)).ownsRow base 9 1 (.slice (some ⟨g, 0, none⟩) n c) n ((row.set q s).map tv)) := by
            have h9 := (HO.out.stored q (tv s)).1
            rw [← List.map_set] at h9
            exact h9
          have HK2 : Hid (Keeps [g] w (wr.setCell ⟨g, q, none⟩ (.string ⟨s.toArray⟩))) := HKR.out.setCell (p := ⟨g, q, none⟩) (.inl (by simp)) _
          go_wp2_with fail
          go_roundw
          case rel => exact ⟨q + 1, j + 1, row.set q s, by go_num, by go_num, by omega, HD2.out, HO2.out, HK2.out⟩
          case measure => simp [intOf]; omega
        · have HD2 := Lib.hid (HD.out.gone HU.out HR.out)
          go_wp2_with fail
          go_roundw
          case rel => exact ⟨q, j + 1, row, rfl, by go_num, by omega, HD2.out, HO.out, HKR.out⟩
          case measure => simp [intOf]; omega
      · obtain rfl : j = n := by omega
        have hend : DelS told l row q l.length := by rw [HLL.out]; exact HD.out
        obtain ⟨hd1, hd2⟩ := hend.done
        rw [HP.out] at hd1 hd2
        have HD1 := Lib.hid hd1
        have HD2 := Lib.hid hd2
        have hcl : ∀ ty, (Builtin.clear_ #[40] ty #[.slice (some ⟨g, q, none⟩) (j - q) (c - q)]).run Tryz.prog wr = .ok (.tuple #[]) (wr.setCells g q (List.replicate (j - q) (.string ⟨#[]⟩))) := fun ty =>
          Lib.run_clear_slice wr 40 9 ty (.string ⟨#[]⟩) Tryz.underlying40 (fun w => by rfl) rfl rfl g q _ _ (by omega) (fun i hi => by
            obtain ⟨u, hu⟩ : ∃ u, row[q + i]? = some u := ⟨_, List.getElem?_eq_getElem (by rw [HD.out.len, HLL.out]; omega)⟩
            rw [HO.out.cellAt (q + i) (by omega), List.getElem?_map, hu]
            rfl) (fun i _ => HO.out.frozenAt (q + i))
        have HKE : Hid (Keeps [] w0 (wr.setCells g q (List.replicate (j - q) (.string ⟨#[]⟩)))) := by
          refine keeps_sets (.inr (by omega)) _ _ ?_
          exact HK.out.trans HKR.out (fun x hx => .inr (by rw [List.mem_singleton.1 hx]; omega))
        have HBE : Hid ((wr.setCells g q (List.replicate (j - q) (.string ⟨#[]⟩))).cell? ⟨B, 0, none⟩ = some (.slice TA tn tc)) := by
          have h9 := keeps_sets (bs := [g]) (a := wr) (gb := g) (.inl (by simp)) (List.replicate (j - q) (Value.string ⟨#[]⟩)) q (Keeps.refl [g] wr)
          exact (h9.cell (lt_of_cell HBW.out) (by simp; omega)).trans HBW.out
        obtain ⟨ys, ho9, ht9, hl9⟩ := own_sets (List.replicate (j - q) (Value.string ⟨#[]⟩)) q q (Nat.le_refl _) HO.out
        have HOE : Hid ((wr.setCells g q (List.replicate (j - q) (.string ⟨#[]⟩))).ownsRow base 9 1 (.slice (some ⟨g, 0, none⟩) q c) q (P.map tv)) := by
          have h8 := own_prefix ho9 (m := q) (by omega) (by rw [hl9, List.length_map, HD.out.len, HLL.out]) (by omega)
          rw [ht9, ← List.map_take, HD1.out] at h8
          exact h8
        clear ho9 ht9 hl9 hend hd1 hd2 ys
        go_wp2_with fail
        go_ret
        rw [HD2.out]
        exact ⟨rfl, HOE.out, HBE.out, HKE.out⟩
end Go.Proofs.YtebocagkpkpghaaGreatDoor
/- entry: remove; walked. -/
namespace Go.Proofs.YtebocagkpkpghaaGreatDoor
open Go.RowKit Go.Shelf
set_option linter.unusedVariables false
set_option linter.unusedSimpArgs false
set_option maxRecDepth 100000

def removeP (had told : List Txt) : List Txt × Nat := if had.length - (stayP told had).length < max told.length 1 then ([], 171) else (stayP told had, 0)

set_option maxHeartbeats 4000000 in
theorem remove_is (HA TA : Option Addr) (hn hc tn tc : Nat) (had told : List Txt) (w : World) (h1 : StrsIn w HA hn had) (h2 : StrsIn w TA tn told) (hb1 : hn ≤ 1000000) (hb2 : tn ≤ 1000000) :
    Calls Tryz.prog 81 #[.slice HA hn hc, .slice TA tn tc] w (DeedQ (removeP had told) w) := by
  have hk0 : Keeps [] w (w.alloc (.cells #[.slice TA tn tc] 40)) := (Keeps.refl [] w).alloc _
  have hz0 : (w.alloc (.cells #[.slice TA tn tc] 40)).heap.size = w.heap.size + 1 := by simp
  have hbx : (w.alloc (.cells #[.slice TA tn tc] 40)).cell? ⟨w.heap.size, 0, none⟩ = some (.slice TA tn tc) := by rw [World.cell?_alloc_new]; rfl
  have HC := Lib.hid (clones_is HA hn hc had (w.alloc (.cells #[.slice TA tn tc] 40)) (StrsIn.grow hk0 h1) hb1)
  have HT := Lib.hid (StrsIn.grow hk0 h2)
  have htb : 0 < tn → ∀ b o, TA = some ⟨b, o, none⟩ → b < w.heap.size + 1 := fun hp b o e => by
    obtain ⟨b', o', e', hc'⟩ := h2.2.2 hp
    rw [e'] at e
    obtain ⟨s, hs⟩ : ∃ s, told[0]? = some s := ⟨_, List.getElem?_eq_getElem (by rw [h2.1]; exact hp)⟩
    have h9 := lt_of_cell (hc' 0 s hs)
    injection e with e
    injection e with e _ _
    subst e
    exact Nat.lt_succ_of_lt h9
  have HTB := Lib.hid htb
  have HK0 := Lib.hid hk0
  have HBX := Lib.hid hbx
  have HTX := Lib.hid h1.2.1
  have HHL := Lib.hid h1.1
  have htl := h2.1
  obtain ⟨P, hP⟩ : ∃ P, removeP had told = P := ⟨_, rfl⟩
  rw [hP]
  unfold removeP at hP
  have hkl := stay_len told had
  obtain ⟨L, hL⟩ : ∃ L, stayP told had = L := ⟨_, rfl⟩
  rw [hL] at hP hkl
  have HL := Lib.hid hL
  rw [h1.1] at hP hkl
  rw [htl] at hP
  obtain ⟨k, hk⟩ : ∃ k, L.length = k := ⟨_, rfl⟩
  rw [hk] at hP hkl
  have HKL := Lib.hid hk
  have HP := Lib.hid hP
  clear hk0 hbx htb h1 h2 hP hL hk htl
  go_enter Tryz.func81, Tryz.ntmps81
  go_wp2_with fail
  refine HC.out.mono ?_
  rintro e w1 ⟨A1, c1, rfl, hr1, hk1⟩
  have HDF := Lib.hid (deletefunc_is w.heap.size TA A1 tn tc hn c1 (w.alloc (.cells #[.slice TA tn tc] 40)).heap.size told had w w1 (HK0.out.trans' hk1) (by omega) ((hk1.cell (lt_of_cell HBX.out) (by simp)).trans HBX.out) (by omega) (StrsIn.grow hk1 HT.out) (by rw [hz0]; exact HTB.out) hb2 hr1 HHL.out HTX.out hb1)
  rw [HL.out, HKL.out] at HDF
  clear hr1 hk1
  go_wp2_with fail
  refine HDF.out.mono ?_
  rintro e w2 ⟨rfl, ho2, hc2, hk2⟩
  have HO2 : Hid (w2.ownsRow w.heap.size 9 1 (.slice A1 k c1) k (L.map tv)) := own_base7 ho2 (by rw [hz0]; omega)
  have HK2 := Lib.hid hk2
  clear ho2 hk2
  have hi1 : (k : Int) ≤ (hn : Int) := by omega
  have hi0 : (0 : Int) ≤ (k : Int) := by omega
  have hi2 : (hn : Int) ≤ 1000000 := by omega
  have hi3 : (0 : Int) ≤ (tn : Int) := by omega
  have hi4 : (tn : Int) ≤ 1000000 := by omega
  by_cases hlt : hn - k < max tn 1
  · have hg : (hn : Int) - (k : Int) < max (tn : Int) 1 := by omega
    have HPE : Hid (P = ([], 171)) := by show _ = _; rw [← HP.out, if_pos hlt]
    clear hlt
    go_wp2_with fail
    refine bodyPost_ret (results_tmp2 rfl _ _ _) rfl ?_
    rw [HPE.out]
    exact DeedQ.no HK2.out
  · have hg : ¬ (hn : Int) - (k : Int) < max (tn : Int) 1 := by omega
    have HPE : Hid (P = (L, 0)) := by show _ = _; rw [← HP.out, if_neg hlt]
    clear hlt
    go_wp2_with fail
    refine bodyPost_ret (results_tmp2 rfl _ _ _) rfl ?_
    rw [HPE.out]
    unfold DeedQ
    dsimp only
    rw [HKL.out]
    exact ⟨A1, c1, rfl, HO2.out, HK2.out⟩
end Go.Proofs.YtebocagkpkpghaaGreatDoor
