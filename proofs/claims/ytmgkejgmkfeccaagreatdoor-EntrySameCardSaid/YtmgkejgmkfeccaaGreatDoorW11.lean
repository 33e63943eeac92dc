
/- entry: slices.Contains, what goes, slices.IndexFunc; walked. -/
import Derived.Test.YtmgkejgmkfeccaaGreatDoorW10
namespace Go.Proofs.YtmgkejgmkfeccaaGreatDoor
open Go.RowKit Go.Shelf
set_option linter.unusedVariables false
set_option linter.unusedSimpArgs false
set_option maxRecDepth 100000

theorem index_is (A : Option Addr) (n c : Nat) (l : List Txt) (v : Txt) (w : World) (h : StrsIn w A n l) (hn : n ≤ 1000000) :
    Calls Tryz.prog 108 #[.slice A n c, tv v] w fun e w' => (v ∉ l → e = .returned (.int .i64 (-1))) ∧ (v ∈ l → ∃ i : Nat, e = .returned (.int .i64 (i : Int))) ∧ w = w' := by
  have HV : Hid (StrsIn w A n l) := h
  obtain ⟨V, hV⟩ : ∃ V : World, V = w := ⟨_, rfl⟩
  subst hV
  clear h
  unfold tv
  go_enter Tryz.func108, Tryz.ntmps108
  go_wp2_with fail
  go_loopw [8] (fun i wr => ∃ j : Nat, i = .int .i64 (j : Int) ∧ j ≤ n ∧ Hid (v ∉ l.take j) ∧ wr = V) (fun i _ => n - (intOf i).toNat)
  case atStart => exact ⟨0, rfl, Nat.zero_le _, by simp [Hid], rfl⟩
  case round =>
    obtain ⟨j, rfl, hj, HA, rfl⟩ := hrel
    by_cases hlt : j < n
    · obtain ⟨hl, hp, hc9⟩ := HV.out
      obtain ⟨b, o, hA9, hcc⟩ := hc9 (by omega)
      subst hA9
      obtain ⟨s, hu⟩ : ∃ s, l[j]? = some s := ⟨_, List.getElem?_eq_getElem (by omega)⟩
      have c0 := hcc j s hu
      have hmem := List.mem_of_getElem? hu
      have HM : Hid (v = s → v ∈ l) := fun e => by rw [e]; exact hmem
      have HNX : Hid (v ≠ s → v ∉ l.take (j + 1)) := fun hd => by
        rw [List.take_add_one, hu, List.mem_append]
        rintro (h9 | h9)
        · exact HA.out h9
        · simp at h9
          exact hd h9
      unfold tv at c0
      obtain ⟨r, hr⟩ : ∃ r, (v == s) = r := ⟨_, rfl⟩
      obtain ⟨hs1, hs2, hs3⟩ := tx_beq v s r hr
      have hji : (j : Int) < (n : Int) := by omega
      have hj0 : 0 ≤ (j : Int) := by omega
      clear hcc hu hp hl hc9 hmem
      cases r
      · have hne : ¬ v = s := by simpa using hr
        have HN2 := Lib.hid (HNX.out hne)
        clear hs1 hs2 hs3 hne
        go_wp2_with fail
        go_roundw
        case rel => exact ⟨j + 1, by go_num, by omega, HN2.out, trivial⟩
        case measure => simp [intOf]; omega
      · have heq : v = s := by simpa using hr
        have HM2 := Lib.hid (HM.out heq)
        subst heq
        clear hr hs2
        go_wp2_with fail
        go_ret
        exact ⟨fun h9 => absurd HM2.out h9, fun _ => ⟨j, rfl⟩, rfl⟩
    · obtain rfl : j = n := by omega
      have h9 := HA.out
      rw [List.take_of_length_le (by rw [HV.out.1]; exact Nat.le_refl _)] at h9
      have H9 := Lib.hid h9
      clear h9
      go_wp2_with fail
      go_ret
      exact ⟨fun _ => rfl, fun h8 => absurd h8 H9.out, rfl⟩

theorem contains_is (A : Option Addr) (n c : Nat) (l : List Txt) (v : Txt) (w : World) (h : StrsIn w A n l) (hn : n ≤ 1000000) :
    Calls Tryz.prog 95 #[.slice A n c, tv v] w fun e w' => e = .returned (.bool (l.contains v)) ∧ w = w' := by
  have HI := Lib.hid (index_is A n c l v w h hn)
  unfold tv at *
  clear h
  by_cases hm : v ∈ l
  · have hc : l.contains v = true := by simpa using hm
    rw [hc]
    go_enter Tryz.func95, Tryz.ntmps95
    go_wp2_with fail
    refine HI.out.mono ?_
    rintro e w1 ⟨_, h2, rfl⟩
    obtain ⟨i, rfl⟩ := h2 hm
    have hi : (0 : Int) ≤ (i : Int) := by omega
    clear h2 hm hc
    go_wp2_with fail
    go_ret
    exact ⟨by first | rfl | simp, rfl⟩
  · have hc : l.contains v = false := by simpa using hm
    rw [hc]
    go_enter Tryz.func95, Tryz.ntmps95
    go_wp2_with fail
    refine HI.out.mono ?_
    rintro e w1 ⟨h1, _, rfl⟩
    obtain rfl := h1 hm
    clear h1 hm hc
    go_wp2_with fail
    go_ret
    exact ⟨by first | rfl | simp, rfl⟩

/-- Does a Value go? -/
def goesP (told : List Txt) (v : Txt) : Bool := told.isEmpty || told.contains v
theorem goes_is (B : Nat) (A : Option Addr) (n c : Nat) (told : List Txt) (v : Txt) (w : World) (hB : w.cell? ⟨B, 0, none⟩ = some (.slice A n c)) (h : StrsIn w A n told) (hn : n ≤ 1000000) :
    Calls Tryz.prog 94 #[tv v, .pointer (some ⟨B, 0, none⟩)] w fun e w' => e = .returned (.bool (goesP told v)) ∧ w = w' := by
  have HC := Lib.hid (contains_is A n c told v w h hn)
  unfold tv at *
  have hl := h.1
  obtain ⟨r, hr⟩ : ∃ r, goesP told v = r := ⟨_, rfl⟩
  rw [hr]
  unfold goesP at hr
  obtain ⟨q, hq⟩ : ∃ q, told.contains v = q := ⟨_, rfl⟩
  rw [hq] at HC hr
  rcases Nat.eq_zero_or_pos n with h0 | h0
  · have he : told = [] := List.length_eq_zero_iff.1 (hl.trans h0)
    obtain rfl : r = true := by rw [← hr, he]; rfl
    subst h0
    clear hr hq h hl he HC
    go_enter Tryz.func94, Tryz.ntmps94
    go_wp2_with fail
    go_ret
    exact ⟨rfl, rfl⟩
  · have hne : ¬ (n : Int) = 0 := by omega
    have hnb : ((n : Int) == 0) = false := by simp; omega
    obtain rfl : r = q := by
      rw [← hr]
      cases told with
      | nil => simp at hl; omega
      | cons a t => rfl
    clear hr hq h hl h0
    go_enter Tryz.func94, Tryz.ntmps94
    go_wp2_with fail
    refine HC.out.mono ?_
    rintro e w1 ⟨rfl, rfl⟩
    cases r
    · go_wp2_with fail
      go_ret
      exact ⟨rfl, rfl⟩
    · go_wp2_with fail
      go_ret
      exact ⟨rfl, rfl⟩

/-- slices.IndexFunc: the first one that goes. -/
theorem indexfunc_is (B : Nat) (TA A : Option Addr) (tn tc n c : Nat) (told l : List Txt) (w : World) (hB : w.cell? ⟨B, 0, none⟩ = some (.slice TA tn tc)) (ht : StrsIn w TA tn told) (htn : tn ≤ 1000000) (h : StrsIn w A n l) (hn : n ≤ 1000000) :
    Calls Tryz.prog 109 #[.slice A n c, .func (.func 94) #[] #[.pointer (some ⟨B, 0, none⟩)]] w fun e w' =>
      ((∀ v ∈ l, goesP told v = false) ∧ e = .returned (.int .i64 (-1)) ∨ ∃ (i : Nat) (v : Txt), l[i]? = some v ∧ goesP told v = true ∧ (∀ x ∈ l.take i, goesP told x = false) ∧ e = .returned (.int .i64 (i : Int))) ∧ w = w' := by
  have HV : Hid (StrsIn w A n l) := h
  have HG := Lib.hid (fun v => goes_is B TA tn tc told v w hB ht htn)
  obtain ⟨V, hV⟩ : ∃ V : World, V = w := ⟨_, rfl⟩
  subst hV
  clear h hB ht
  go_enter Tryz.func109, Tryz.ntmps109
  go_wp2_with fail
  go_loopw [8] (fun i wr => ∃ j : Nat, i = .int .i64 (j : Int) ∧ j ≤ n ∧ Hid (∀ x ∈ l.take j, goesP told x = false) ∧ wr = V) (fun i _ => n - (intOf i).toNat)
  case atStart => exact ⟨0, rfl, Nat.zero_le _, by simp [Hid], rfl⟩
  case round =>
    obtain ⟨j, rfl, hj, HA, rfl⟩ := hrel
    by_cases hlt : j < n
    · obtain ⟨hl, hp, hc9⟩ := HV.out
      obtain ⟨b, o, hA9, hcc⟩ := hc9 (by omega)
      subst hA9
      obtain ⟨s, hu⟩ : ∃ s, l[j]? = some s := ⟨_, List.getElem?_eq_getElem (by omega)⟩
      have c0 := hcc j s hu
      have HU := Lib.hid hu
      have HGS := Lib.hid (HG.out s)
      obtain ⟨r, hr⟩ : ∃ r, goesP told s = r := ⟨_, rfl⟩
      rw [hr] at HGS
      have HR := Lib.hid hr
      unfold tv at c0 HGS
      have hji : (j : Int) < (n : Int) := by omega
      have hj0 : 0 ≤ (j : Int) := by omega
      clear hcc hu hp hl hc9 hr
      go_wp2_with fail
      refine HGS.out.mono ?_
      rintro e w1 ⟨rfl, rfl⟩
      cases r
      · have HN2 : Hid (∀ x ∈ l.take (j + 1), goesP told x = false) := fun x hx => by
          rw [List.take_add_one, HU.out, List.mem_append] at hx
          rcases hx with h9 | h9
          · exact HA.out x h9
          · simp at h9
            rw [h9]
            exact HR.out
        go_wp2_with fail
        go_roundw
        case rel => exact ⟨j + 1, by go_num, by omega, HN2.out, trivial⟩
        case measure => simp [intOf]; omega
      · go_wp2_with fail
        go_ret
        exact ⟨.inr ⟨j, s, HU.out, HR.out, HA.out, rfl⟩, rfl⟩
    · obtain rfl : j = n := by omega
      have h9 := HA.out
      rw [List.take_of_length_le (by rw [HV.out.1]; exact Nat.le_refl _)] at h9
      have H9 := Lib.hid h9
      clear h9
      go_wp2_with fail
      go_ret
      exact ⟨.inl ⟨H9.out, rfl⟩, rfl⟩
end Go.Proofs.YtmgkejgmkfeccaaGreatDoor
