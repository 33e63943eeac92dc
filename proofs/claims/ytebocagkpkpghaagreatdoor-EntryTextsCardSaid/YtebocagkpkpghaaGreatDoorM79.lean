/- Texts of one proof, laid together: W10 W11. -/
import Derived.Test.YtebocagkpkpghaaGreatDoorM78
/- entry: add, replace; walked. -/
namespace Go.Proofs.YtebocagkpkpghaaGreatDoor
open Go.RowKit Go.Shelf
set_option linter.unusedVariables false
set_option linter.unusedSimpArgs false
set_option maxRecDepth 100000

/-- What a deed answers: Values in new memory, and an error. -/
def DeedQ (p : List Txt × Nat) (w : World) (e : Ending) (w' : World) : Prop :=
  ∃ A c, e = .returned (.tuple #[.slice A p.1.length c, .int .i64 (p.2 : Int)]) ∧ w'.ownsRow w.heap.size 9 1 (.slice A p.1.length c) p.1.length (p.1.map tv) ∧ Keeps [] w w'
theorem DeedQ.no {n : Nat} {w w' : World} (h : Keeps [] w w') : DeedQ ([], n) w (.returned (.tuple #[.slice none 0 0, .int .i64 (n : Int)])) w' := ⟨none, 0, rfl, World.ownsRow_nil _ _ _ _, h⟩
def addP (had told : List Txt) : List Txt × Nat := if (ordS (had ++ told)).length < (had ++ told).length then ([], 170) else (had ++ told, 0)
def replaceP (told : List Txt) : List Txt × Nat := (ordS told, 0)

theorem replace_is (V : Value) (A : Option Addr) (n c : Nat) (told : List Txt) (w : World) (h : StrsIn w A n told) (hn : n ≤ 1000000) :
    Calls Tryz.prog 82 #[V, .slice A n c] w (DeedQ (replaceP told) w) := by
  have HO := Lib.hid (ordered_is A n c told w h hn)
  unfold OrdQ at HO
  unfold replaceP
  obtain ⟨os, hos⟩ : ∃ os, ordS told = os := ⟨_, rfl⟩
  rw [hos] at HO ⊢
  clear h hos
  go_enter Tryz.func82, Tryz.ntmps82
  go_wp2_with fail
  refine HO.out.mono ?_
  rintro e w1 ⟨A1, c1, rfl, h1, h2⟩
  have H1 := Lib.hid h1
  have H2 := Lib.hid h2
  clear h1 h2
  go_wp2_with fail
  refine bodyPost_ret (results_tmp2 rfl _ _ _) rfl ?_
  exact ⟨A1, c1, rfl, H1.out, H2.out⟩

theorem two_rows (w : World) (x y : At7) (hx : StrsIn w x.A x.n x.vs) (hy : StrsIn w y.A y.n y.vs) : RowsIn (w.alloc (.cells #[.slice x.A x.n x.c, .slice y.A y.n y.c] 40)) w.heap.size [x, y] := by
  obtain ⟨⟨c0, c1⟩, _⟩ := blk2 (heap_new8 w (.cells #[.slice x.A x.n x.c, .slice y.A y.n y.c] 40))
  intro j z hz
  rcases j with _ | _ | j
  · simp at hz
    subst hz
    exact ⟨c0, StrsIn.grow ((Keeps.refl [] w).alloc _) hx⟩
  · simp at hz
    subst hz
    exact ⟨c1, StrsIn.grow ((Keeps.refl [] w).alloc _) hy⟩
  · simp at hz

set_option maxHeartbeats 4000000 in
theorem add_is (HA TA : Option Addr) (hn hc tn tc : Nat) (had told : List Txt) (w : World) (h1 : StrsIn w HA hn had) (h2 : StrsIn w TA tn told) (hb1 : hn ≤ 100000) (hb2 : tn ≤ 100000) :
    Calls Tryz.prog 80 #[.slice HA hn hc, .slice TA tn tc] w (DeedQ (addP had told) w) := by
  have hk0 : Keeps [] w (w.alloc (.cells #[.slice HA hn hc, .slice TA tn tc] 40)) := (Keeps.refl [] w).alloc _
  have hz0 : (w.alloc (.cells #[.slice HA hn hc, .slice TA tn tc] 40)).heap.size = w.heap.size + 1 := by simp
  have hCO := concats_is w.heap.size 2 [⟨[], HA, hn, hc, had⟩, ⟨[], TA, tn, tc, told⟩] (w.alloc (.cells #[.slice HA hn hc, .slice TA tn tc] 40)) rfl (by omega) (two_rows w ⟨[], HA, hn, hc, had⟩ ⟨[], TA, tn, tc, told⟩ h1 h2) (by simp [totS]; omega)
  have e1 : totS [⟨[], HA, hn, hc, had⟩, ⟨[], TA, tn, tc, told⟩] = hn + tn := by simp [totS]
  have e2 : flatS [⟨[], HA, hn, hc, had⟩, ⟨[], TA, tn, tc, told⟩] = had ++ told := by simp [flatS]
  rw [e1, e2] at hCO
  have HCO := Lib.hid hCO
  have HK0 := Lib.hid hk0
  obtain ⟨P, hP⟩ : ∃ P, addP had told = P := ⟨_, rfl⟩
  rw [hP]
  unfold addP at hP
  have hal : (had ++ told).length = hn + tn := by rw [List.length_append, h1.1, h2.1]
  have htx : ∀ s ∈ had ++ told, s.length ≤ 9223372036854775807 := fun s hs => by
    rcases List.mem_append.1 hs with hs | hs
    · exact h1.2.1 s hs
    · exact h2.2.1 s hs
  obtain ⟨all, hall⟩ : ∃ all, had ++ told = all := ⟨_, rfl⟩
  rw [hall] at hP HCO hal htx
  rw [hal] at hP
  have HTX := Lib.hid htx
  have HAL := Lib.hid hal
  have HP := Lib.hid hP
  obtain ⟨m, hm⟩ : ∃ m, hn + tn = m := ⟨_, rfl⟩
  rw [hm] at HCO HAL HP
  have hmb : m ≤ 1000000 := by omega
  clear hCO hk0 hP hal htx hall h1 h2 e1 e2 hm
  go_enter Tryz.func80, Tryz.ntmps80
  go_wp2_with fail
  refine HCO.out.mono ?_
  rintro e w1 ⟨B, d, rfl, hr1, hk1⟩
  have HR1 := Lib.hid hr1
  have HK1 := Lib.hid (HK0.out.trans' hk1)
  have HO := Lib.hid (ordered_is B m d all w1 (StrsIn.of_own hr1 HAL.out HTX.out) hmb)
  unfold OrdQ at HO
  obtain ⟨on, hon⟩ : ∃ on, (ordS all).length = on := ⟨_, rfl⟩
  rw [hon] at HO HP
  clear hr1 hk1 hon
  go_wp2_with fail
  refine HO.out.mono ?_
  rintro e w2 ⟨A2, c2, rfl, hr2, hk2⟩
  have HK2 := Lib.hid (HK1.out.trans' hk2)
  have HR2 : Hid (w2.ownsRow w.heap.size 9 1 (.slice B m d) m (all.map tv)) := own_base7 (own_keep HR1.out hk2 (by simp)) (by rw [hz0]; omega)
  clear hr2 hk2
  by_cases hlt : on < m
  · have hg : (on : Int) < (m : Int) := by omega
    have HPE : Hid (P = ([], 170)) := by show _ = _; rw [← HP.out, if_pos hlt]
    clear hlt
    go_wp2_with fail
    refine bodyPost_ret (results_tmp2 rfl _ _ _) rfl ?_
    rw [HPE.out]
    exact DeedQ.no HK2.out
  · have hg : ¬ (on : Int) < (m : Int) := by omega
    have HPE : Hid (P = (all, 0)) := by show _ = _; rw [← HP.out, if_neg hlt]
    clear hlt
    go_wp2_with fail
    refine bodyPost_ret (results_tmp2 rfl _ _ _) rfl ?_
    rw [HPE.out]
    unfold DeedQ
    dsimp only
    rw [HAL.out]
    exact ⟨B, d, rfl, HR2.out, HK2.out⟩
end Go.Proofs.YtebocagkpkpghaaGreatDoor
/- entry: slices.Contains, what goes, slices.IndexFunc; walked. -/
namespace Go.Proofs.YtebocagkpkpghaaGreatDoor
open Go.RowKit Go.Shelf
set_option linter.unusedVariables false
set_option linter.unusedSimpArgs false
set_option maxRecDepth 100000

theorem index_is (A : Option Addr) (n c : Nat) (l : List Txt) (v : Txt) (w : World) (h : StrsIn w A n l) (hn : n ≤ 1000000) :
    Calls Tryz.prog 108 #[.slice A n c, tv v] w fun e w' => (v ∉ l → e = .returned (.int .i64 (-1))) ∧ (v ∈ l → ∃ i : Nat, e = .returned (.int .i64 (i : Int))) ∧ w = w' := by
  have HV : Hid (StrsIn w A n l) := h
  obtain ⟨V, hV⟩ : ∃ V : World, V = w := ⟨_, rfl⟩
  subst hV
  clear h
  unfold tv
  go_enter Tryz.func108, Tryz.ntmps108
  go_wp2_with fail
  go_loopw [8] (fun i wr => ∃ j : Nat, i = .int .i64 (j : Int) ∧ j ≤ n ∧ Hid (v ∉ l.take j) ∧ wr = V) (fun i _ => n - (intOf i).toNat)
  case atStart => exact ⟨0, rfl, Nat.zero_le _, by simp [Hid], rfl⟩
  case round =>
    obtain ⟨j, rfl, hj, HA, rfl⟩ := hrel
    by_cases hlt : j < n
    · obtain ⟨hl, hp, hc9⟩ := HV.out
      obtain ⟨b, o, hA9, hcc⟩ := hc9 (by omega)
      subst hA9
      obtain ⟨s, hu⟩ : ∃ s, l[j]? = some s := ⟨_, List.getElem?_eq_getElem (by omega)⟩
      have c0 := hcc j s hu
      have hmem := List.mem_of_getElem? hu
      have HM : Hid (v = s → v ∈ l) := fun e => by rw [e]; exact hmem
      have HNX : Hid (v ≠ s → v ∉ l.take (j + 1)) := fun hd => by
        rw [List.take_add_one, hu, List.mem_append]
        rintro (h9 | h9)
        · exact HA.out h9
        · simp at h9
          exact hd h9
      unfold tv at c0
      obtain ⟨r, hr⟩ : ∃ r, (v == s) = r := ⟨_, rfl⟩
      obtain ⟨hs1, hs2, hs3⟩ := tx_beq v s r hr
      have hji : (j : Int) < (n : Int) := by omega
      have hj0 : 0 ≤ (j : Int) := by omega
      clear hcc hu hp hl hc9 hmem
      cases r
      · have hne : ¬ v = s := by simpa using hr
        have HN2 := Lib.hid (HNX.out hne)
        clear hs1 hs2 hs3 hne
        go_wp2_with fail
        go_roundw
        case rel => exact ⟨j + 1, by go_num, by omega, HN2.out, trivial⟩
        case measure => simp [intOf]; omega
      · have heq : v = s := by simpa using hr
        have HM2 := Lib.hid (HM.out heq)
        subst heq
        clear hr hs2
        go_wp2_with fail
        go_ret
        exact ⟨fun h9 => absurd HM2.out h9, fun _ => ⟨j, rfl⟩, rfl⟩
    · obtain rfl : j = n := by omega
      have h9 := HA.out
      rw [List.take_of_length_le (by rw [HV.out.1]; exact Nat.le_refl _)] at h9
      have H9 := Lib.hid h9
      clear h9
      go_wp2_with fail
      go_ret
      exact ⟨fun _ => rfl, fun h8 => absurd h8 H9.out, rfl⟩

theorem contains_is (A : Option Addr) (n c : Nat) (l : List Txt) (v : Txt) (w : World) (h : StrsIn w A n l) (hn : n ≤ 1000000) :
    Calls Tryz.prog 95 #[.slice A n c, tv v] w fun e w' => e = .returned (.bool (l.contains v)) ∧ w = w' := by
  have HI := Lib.hid (index_is A n c l v w h hn)
  unfold tv at *
  clear h
  by_cases hm : v ∈ l
  · have hc : l.contains v = true := by simpa using hm
    rw [hc]
    go_enter Tryz.func95, Tryz.ntmps95
    go_wp2_with fail
    refine HI.out.mono ?_
    rintro e w1 ⟨_, h2, rfl⟩
    obtain ⟨i, rfl⟩ := h2 hm
    have hi : (0 : Int) ≤ (i : Int) := by omega
    clear h2 hm hc
    go_wp2_with fail
    go_ret
    exact ⟨by first | rfl | simp, rfl⟩
  · have hc : l.contains v = false := by simpa using hm
    rw [hc]
    go_enter Tryz.func95, Tryz.ntmps95
    go_wp2_with fail
    refine HI.out.mono ?_
    rintro e w1 ⟨h1, _, rfl⟩
    obtain rfl := h1 hm
    clear h1 hm hc
    go_wp2_with fail
    go_ret
    exact ⟨by first | rfl | simp, rfl⟩

/-- Does a Value go? -/
def goesP (told : List Txt) (v : Txt) : Bool := told.isEmpty || told.contains v
theorem goes_is (B : Nat) (A : Option Addr) (n c : Nat) (told : List Txt) (v : Txt) (w : World) (hB : w.cell? ⟨B, 0, none⟩ = some (.slice A n c)) (h : StrsIn w A n told) (hn : n ≤ 1000000) :
    Calls Tryz.prog 94 #[tv v, .pointer (some ⟨B, 0, none⟩)] w fun e w' => e = .returned (.bool (goesP told v)) ∧ w = w' := by
  have HC := Lib.hid (contains_is A n c told v w h hn)
  unfold tv at *
  have hl := h.1
  obtain ⟨r, hr⟩ : ∃ r, goesP told v = r := ⟨_, rfl⟩
  rw [hr]
  unfold goesP at hr
  obtain ⟨q, hq⟩ : ∃ q, told.contains v = q := ⟨_, rfl⟩
  rw [hq] at HC hr
  rcases Nat.eq_zero_or_pos n with h0 | h0
  · have he : told = [] := List.length_eq_zero_iff.1 (hl.trans h0)
    obtain rfl : r = true := by rw [← hr, he]; rfl
    subst h0
    clear hr hq h hl he HC
    go_enter Tryz.func94, Tryz.ntmps94
    go_wp2_with fail
    go_ret
    exact ⟨rfl, rfl⟩
  · have hne : ¬ (n : Int) = 0 := by omega
    have hnb : ((n : Int) == 0) = false := by simp; omega
    obtain rfl : r = q := by
      rw [← hr]
      cases told with
      | nil => simp at hl; omega
      | cons a t => rfl
    clear hr hq h hl h0
    go_enter Tryz.func94, Tryz.ntmps94
    go_wp2_with fail
    refine HC.out.mono ?_
    rintro e w1 ⟨rfl, rfl⟩
    cases r
    · go_wp2_with fail
      go_ret
      exact ⟨rfl, rfl⟩
    · go_wp2_with fail
      go_ret
      exact ⟨rfl, rfl⟩

/-- slices.IndexFunc: the first one that goes. -/
theorem indexfunc_is (B : Nat) (TA A : Option Addr) (tn tc n c : Nat) (told l : List Txt) (w : World) (hB : w.cell? ⟨B, 0, none⟩ = some (.slice TA tn tc)) (ht : StrsIn w TA tn told) (htn : tn ≤ 1000000) (h : StrsIn w A n l) (hn : n ≤ 1000000) :
    Calls Tryz.prog 109 #[.slice A n c, .func (.func 94) #[] #[.pointer (some ⟨B, 0, none⟩)]] w fun e w' =>
      ((∀ v ∈ l, goesP told v = false) ∧ e = .returned (.int .i64 (-1)) ∨ ∃ (i : Nat) (v : Txt), l[i]? = some v ∧ goesP told v = true ∧ (∀ x ∈ l.take i, goesP told x = false) ∧ e = .returned (.int .i64 (i : Int))) ∧ w = w' := by
  have HV : Hid (StrsIn w A n l) := h
  have HG := Lib.hid (fun v => goes_is B TA tn tc told v w hB ht htn)
  obtain ⟨V, hV⟩ : ∃ V : World, V = w := ⟨_, rfl⟩
  subst hV
  clear h hB ht
  go_enter Tryz.func109, Tryz.ntmps109
  go_wp2_with fail
  go_loopw [8] (fun i wr => ∃ j : Nat, i = .int .i64 (j : Int) ∧ j ≤ n ∧ Hid (∀ x ∈ l.take j, goesP told x = false) ∧ wr = V) (fun i _ => n - (intOf i).toNat)
  case atStart => exact ⟨0, rfl, Nat.zero_le _, by simp [Hid], rfl⟩
  case round =>
    obtain ⟨j, rfl, hj, HA, rfl⟩ := hrel
    by_cases hlt : j < n
    · obtain ⟨hl, hp, hc9⟩ := HV.out
      obtain ⟨b, o, hA9, hcc⟩ := hc9 (by omega)
      subst hA9
      obtain ⟨s, hu⟩ : ∃ s, l[j]? = some s := ⟨_, List.getElem?_eq_getElem (by omega)⟩
      have c0 := hcc j s hu
      have HU := Lib.hid hu
      have HGS := Lib.hid (HG.out s)
      obtain ⟨r, hr⟩ : ∃ r, goesP told s = r := ⟨_, rfl⟩
      rw [hr] at HGS
      have HR := Lib.hid hr
      unfold tv at c0 HGS
      have hji : (j : Int) < (n : Int) := by omega
      have hj0 : 0 ≤ (j : Int) := by omega
      clear hcc hu hp hl hc9 hr
      go_wp2_with fail
      refine HGS.out.mono ?_
      rintro e w1 ⟨rfl, rfl⟩
      cases r
      · have HN2 : Hid (∀ x ∈ l.take (j + 1), goesP told x = false) := fun x hx => by
          rw [List.take_add_one, HU.out, List.mem_append] at hx
          rcases hx with h9 | h9
          · exact HA.out x h9
          · simp at h9
            rw [h9]
            exact HR.out
        go_wp2_with fail
        go_roundw
        case rel => exact ⟨j + 1, by go_num, by omega, HN2.out, trivial⟩
        case measure => simp [intOf]; omega
      · go_wp2_with fail
        go_ret
        exact ⟨.inr ⟨j, s, HU.out, HR.out, HA.out, rfl⟩, rfl⟩
    · obtain rfl : j = n := by omega
      have h9 := HA.out
      rw [List.take_of_length_le (by rw [HV.out.1]; exact Nat.le_refl _)] at h9
      have H9 := Lib.hid h9
      clear h9
      go_wp2_with fail
      go_ret
      exact ⟨.inl ⟨H9.out, rfl⟩, rfl⟩
end Go.Proofs.YtebocagkpkpghaaGreatDoor
