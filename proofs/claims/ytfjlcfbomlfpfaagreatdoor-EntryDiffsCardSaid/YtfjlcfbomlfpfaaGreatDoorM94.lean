/- Texts of one proof, laid together: X10 X11. -/
import Derived.Test.YtfjlcfbomlfpfaaGreatDoorM91
import Derived.Test.YtfjlcfbomlfpfaaGreatDoorM89
import Derived.Test.YtfjlcfbomlfpfaaGreatDoorN13
import Derived.BigQuiet
/- entry: the document's among, twice, May; walked. -/
namespace Go.Proofs.YtfjlcfbomlfpfaaGreatDoor
open Go.RowKit Go.Shelf
set_option linter.unusedVariables false
set_option linter.unusedSimpArgs false
set_option maxRecDepth 100000

theorem has_take {l : List Txt} {j : Nat} {x : Txt} (s : Txt) (h : l[j]? = some x) : (l.take (j + 1)).contains s = ((l.take j).contains s || x == s) := by
  rw [List.take_add_one, h, Bool.eq_iff_iff]
  simp only [List.contains_iff_mem, List.mem_append, Option.toList_some, List.mem_singleton, Bool.or_eq_true, beq_iff_eq]
  exact or_congr_right ⟨fun e => e.symm, fun e => e.symm⟩
theorem has_yes {l : List Txt} {j : Nat} {x : Txt} {s : Txt} (h : l[j]? = some x) (he : (x == s) = true) : l.contains s = true := by
  rw [List.contains_iff_mem]
  have : x = s := by simpa using he
  rw [← this]
  exact List.mem_of_getElem? h
set_option maxHeartbeats 4000000 in
theorem ramong_is (A : Option Addr) (n c : Nat) (l : List Txt) (s : Txt) (w : World) (h : StrsIn w A n l) (hn : n ≤ 4611686018427387904) :
    Calls Tryz.prog 69 #[.slice A n c, tv s] w fun e w' => e = .returned (.bool (l.contains s)) ∧ w = w' := by
  have HV : Hid (StrsIn w A n l) := h
  obtain ⟨V, hV⟩ : ∃ V : World, V = w := ⟨_, rfl⟩
  subst hV
  obtain ⟨R, hR⟩ : ∃ R, l.contains s = R := ⟨_, rfl⟩
  rw [hR]
  have HR := Lib.hid hR
  unfold tv
  clear h hR
  go_enter Tryz.func69, Tryz.ntmps69
  go_wp2_with fail
  go_loopw [5] (fun i wr => ∃ j : Nat, i = .int .i64 (j : Int) ∧ j ≤ n ∧ Hid ((l.take j).contains s = false) ∧ wr = V) (fun i _ => n - (intOf i).toNat)
  case atStart => exact ⟨0, rfl, Nat.zero_le _, by simp [Hid], rfl⟩
  case round =>
    obtain ⟨j, rfl, hj, HA, rfl⟩ := hrel
    by_cases hlt : j < n
    · obtain ⟨hl, hp, hc9⟩ := HV.out
      obtain ⟨b, o, hA9, hcc⟩ := hc9 (by omega)
      clear hc9
      subst hA9
      obtain ⟨x, hu⟩ : ∃ s, l[j]? = some s := ⟨_, List.getElem?_eq_getElem (by omega)⟩
      have c0 := hcc j x hu
      have HT := Lib.hid (has_take s hu)
      have HC := Lib.hid (fun h => has_yes (s := s) hu h)
      unfold tv at c0
      have hji : (j : Int) < (n : Int) := by omega
      have hj0 : (0 : Int) ≤ (j : Int) := by omega
      obtain ⟨q, hq⟩ : ∃ q, (x == s) = q := ⟨_, rfl⟩
      obtain ⟨hs1, hs2, hs3⟩ := tx_beq x s q hq
      rw [hq] at HT HC
      clear hcc hu hp hl
      cases q
      · go_wp2_with fail
        go_roundw
        case rel => exact ⟨j + 1, by go_num, by omega, by show _ = _; rw [HT.out, HA.out]; rfl, trivial⟩
        case measure => simp [intOf]; omega
      · go_wp2_with fail
        go_ret
        exact ⟨by rw [← HR.out, HC.out (by first | exact trivial | rfl)]; rfl, rfl⟩
    · obtain rfl : j = n := by omega
      have h9 := HA.out
      rw [List.take_of_length_le (by rw [HV.out.1]; exact Nat.le_refl _)] at h9
      have H9 := Lib.hid h9
      clear h9
      go_wp2_with fail
      go_ret
      exact ⟨by rw [← HR.out, H9.out]; rfl, rfl⟩

theorem StrsIn.take {w : World} {A : Option Addr} {n j : Nat} {l : List Txt} (h : StrsIn w A n l) (hj : j ≤ n) : StrsIn w A j (l.take j) := by
  obtain ⟨h1, h2, h3⟩ := h
  refine ⟨by rw [List.length_take]; omega, fun s hs => h2 s (List.mem_of_mem_take hs), fun h0 => ?_⟩
  obtain ⟨b, o, e, hc⟩ := h3 (by omega)
  refine ⟨b, o, e, fun i s hi => hc i s ?_⟩
  rw [List.getElem?_take] at hi
  split at hi
  · exact hi
  · cases hi
theorem nodup_take {l : List Txt} {j : Nat} {x : Txt} (h : l[j]? = some x) (hn : (l.take j).Nodup) : (l.Nodup → (l.take j).contains x = false) ∧ ((l.take j).contains x = false → (l.take (j + 1)).Nodup) := by
  constructor
  · intro hl
    cases hc : (l.take j).contains x with
    | false => rfl
    | true =>
      exfalso
      rw [List.contains_iff_mem] at hc
      have h2 : (l.take (j + 1)).Nodup := hl.sublist (List.take_sublist _ _)
      rw [List.take_add_one, h, List.nodup_append] at h2
      exact h2.2.2 x hc x (by simp) rfl
  · intro hc
    rw [List.take_add_one, h, List.nodup_append]
    refine ⟨hn, by simp, fun a ha b hb => ?_⟩
    simp at hb
    rw [hb]
    intro e
    rw [e, ← List.contains_iff_mem, hc] at ha
    cases ha
set_option maxHeartbeats 4000000 in
theorem rtwice_is (A : Option Addr) (n c : Nat) (l : List Txt) (w : World) (h : StrsIn w A n l) (hn : n ≤ 1000000) (hc : n ≤ c) (hc2 : c ≤ 9223372036854775807) :
    Calls Tryz.prog 68 #[.slice A n c] w fun e w' => e = .returned (.bool (twiceR l)) ∧ Keeps [] w w' := by
  have HV : Hid (StrsIn w A n l) := h
  clear h
  go_enter Tryz.func68, Tryz.ntmps68
  go_wp2_with fail
  go_loopw [3] (fun i wr => ∃ j : Nat, i = .int .i64 (j : Int) ∧ j ≤ n ∧ Hid ((l.take j).Nodup) ∧ Hid (Keeps [] w wr)) (fun i _ => n - (intOf i).toNat)
  case atStart => exact ⟨0, rfl, Nat.zero_le _, by simp [Hid], Keeps.refl _ _⟩
  case round =>
    obtain ⟨j, rfl, hj, HA, HKR⟩ := hrel
    by_cases hlt : j < n
    · have HG := Lib.hid (StrsIn.grow HKR.out HV.out)
      obtain ⟨hl, hp, hc9⟩ := HG.out
      obtain ⟨b, o, hA9, hcc⟩ := hc9 (by omega)
      clear hc9
      subst hA9
      obtain ⟨x, hu⟩ : ∃ s, l[j]? = some s := ⟨_, List.getElem?_eq_getElem (by omega)⟩
      have c0 := hcc j x hu
      have HT := Lib.hid (nodup_take hu HA.out)
      have HAM := Lib.hid (fun X (hX : Keeps [] wr X) => ramong_is (some ⟨b, o, none⟩) j c (l.take j) x X (StrsIn.take (StrsIn.grow hX HG.out) hj) (by omega))
      obtain ⟨q, hq⟩ : ∃ q, (l.take j).contains x = q := ⟨_, rfl⟩
      rw [hq] at HT HAM
      unfold tv at c0
      have hji : (j : Int) < (n : Int) := by omega
      have hj0 : (0 : Int) ≤ (j : Int) := by omega
      have hjc : (j : Int) ≤ (c : Int) := by omega
      have hjn : (j : Int) ≤ (n : Int) := by omega
      clear hcc hu hp hl hq
      cases q
      · go_wp2_with fail
        go_quiet (first | (go_at_call 69; refine Calls.quiet_of_same ((HAM.out _ ((Keeps.refl [] wr).drewN _)).mono fun e w1 hh => ⟨hh.1, hh.2.symm⟩)))
        go_wp2_with fail
        go_roundw
        case rel => exact ⟨j + 1, by go_num, by omega, HT.out.2 (by first | exact trivial | rfl), HKR.out.drewN _⟩
        case measure => simp [intOf]; omega
      · have HTW : Hid (twiceR l = true) := by
          show _ = _
          unfold twiceR
          cases hd : decide l.Nodup with
          | false => rfl
          | true =>
            have := HT.out.1 (by simpa using hd)
            cases this
        go_wp2_with fail
        go_quiet (first | (go_at_call 69; refine Calls.quiet_of_same ((HAM.out _ ((Keeps.refl [] wr).drewN _)).mono fun e w1 hh => ⟨hh.1, hh.2.symm⟩)))
        go_wp2_with fail
        go_ret
        exact ⟨by rw [HTW.out]; rfl, HKR.out.drewN _⟩
    · obtain rfl : j = n := by omega
      have h9 := HA.out
      rw [List.take_of_length_le (by rw [HV.out.1]; exact Nat.le_refl _)] at h9
      have HTW : Hid (twiceR l = false) := by show _ = _; unfold twiceR; rw [decide_eq_true h9]; rfl
      clear h9
      go_wp2_with fail
      go_ret
      exact ⟨by rw [HTW.out]; rfl, HKR.out⟩

set_option maxHeartbeats 4000000 in
theorem rmay_is (K : Int) (nm : Txt) (aA : Option Addr) (an ac : Nat) (vs : List Txt) (w : World) (hnm : nm.length ≤ 9223372036854775807) (h : StrsIn w aA an vs) (hn : an ≤ 4611686018427387904) :
    Calls Tryz.prog 36 #[.agg #[.int .i64 K, tv nm, .slice aA an ac]] w fun e w' => e = .returned (.bool (modOk K nm vs)) ∧ Keeps [] w w' := by
  unfold tv
  have HK0 : Hid (Keeps [] w (w.alloc (.cells #[.int .i64 K, .string ⟨nm.toArray⟩, .slice aA an ac] 49))) := (Keeps.refl [] w).alloc _
  have hb0 := heap_new8 w (.cells #[.int .i64 K, .string ⟨nm.toArray⟩, .slice aA an ac] 49)
  obtain ⟨W0, hW0⟩ : ∃ W0, w.alloc (.cells #[.int .i64 K, .string ⟨nm.toArray⟩, .slice aA an ac] 49) = W0 := ⟨_, rfl⟩
  rw [hW0] at HK0 hb0
  have HRN := Lib.hid (fun X => rname_is nm X hnm)
  have HRV := Lib.hid (rvalues_is aA an ac vs W0 (StrsIn.grow HK0.out h) hn)
  obtain ⟨r, hr⟩ : ∃ r, modOk K nm vs = r := ⟨_, rfl⟩
  rw [hr]
  have hmb : maybeA nm vs = (vs.all valOk && nameT nm) := rfl
  unfold modOk at hr
  rw [h.1, hmb] at hr
  obtain ⟨g, hg⟩ : ∃ g, w.heap.size = g := ⟨_, rfl⟩
  rw [hg] at hb0
  obtain ⟨d0, d1, d2⟩ := cells3 hb0
  obtain ⟨q1, hq1⟩ : ∃ q, vs.all valOk = q := ⟨_, rfl⟩
  obtain ⟨q2, hq2⟩ : ∃ q, nameT nm = q := ⟨_, rfl⟩
  rw [hq1] at HRV hr
  rw [hq2] at HRN hr
  clear h hq1 hq2 hb0 hmb
  by_cases h1 : K < 1
  · obtain rfl : r = false := by rw [← hr, if_pos (.inl h1)]
    have h1' : ¬ 1 ≤ K := by omega
    clear hr
    go_enter Tryz.func36, Tryz.ntmps36
    go_wp2_with fail
    go_ret
    exact ⟨rfl, HK0.out⟩
  · have h1' : 1 ≤ K := by omega
    by_cases h3 : 3 < K
    · obtain rfl : r = false := by rw [← hr, if_pos (.inr (.inl h3))]
      have h3' : ¬ K ≤ 3 := by omega
      clear hr
      go_enter Tryz.func36, Tryz.ntmps36
      go_wp2_with fail
      go_ret
      exact ⟨rfl, HK0.out⟩
    · have h3' : K ≤ 3 := by omega
      go_enter Tryz.func36, Tryz.ntmps36
      go_wp2_with fail
      refine (HRN.out _).mono ?_
      rintro e w1 ⟨rfl, rfl⟩
      cases q2
      · obtain rfl : r = false := by rw [← hr]; split <;> simp
        clear hr
        go_wp2_with fail
        go_ret
        exact ⟨rfl, HK0.out⟩
      · by_cases h16 : 16 < an
        · obtain rfl : r = false := by rw [← hr, if_pos (.inr (.inr h16))]
          have h16' : ¬ (an : Int) ≤ 16 := by omega
          clear hr
          go_wp2_with fail
          go_ret
          exact ⟨rfl, HK0.out⟩
        · rw [if_neg (by omega)] at hr
          have h16' : (an : Int) ≤ 16 := by omega
          go_wp2_with fail
          refine HRV.out.mono ?_
          rintro e w1 ⟨rfl, rfl⟩
          cases q1
          · obtain rfl : r = false := by rw [← hr]; rfl
            clear hr
            go_wp2_with fail
            go_ret
            exact ⟨rfl, HK0.out⟩
          · rw [Bool.true_and, Bool.true_and] at hr
            by_cases hK : K = 1
            · subst hK
              by_cases hn0 : 0 < an
              · obtain rfl : r = true := by rw [← hr]; simp [hn0]
                have hn1 : (0 : Int) < (an : Int) := by omega
                clear hr
                go_wp2_with fail
                go_ret
                exact ⟨rfl, HK0.out⟩
              · obtain rfl : r = false := by rw [← hr]; simp [hn0]
                have hn1 : ¬ (0 : Int) < (an : Int) := by omega
                clear hr
                go_wp2_with fail
                go_ret
                exact ⟨rfl, HK0.out⟩
            · obtain rfl : r = true := by rw [← hr]; simp [hK]
              have hKb : (K == 1) = false := by simpa using hK
              have hKc : (K != 1) = true := by simpa using hK
              clear hr
              go_wp2_with fail
              go_ret
              exact ⟨rfl, HK0.out⟩
end Go.Proofs.YtfjlcfbomlfpfaaGreatDoor
/- entry: the document's one change; walked. -/
namespace Go.Proofs.YtfjlcfbomlfpfaaGreatDoor
open Go.RowKit Go.Shelf
set_option linter.unusedVariables false
set_option linter.unusedSimpArgs false
set_option maxRecDepth 100000

theorem one_no {E : List Att} {k c : Nat} {z : Txt} {told : List Txt} (h : nowR k (cont2 E z) told = ([], c)) (hc : c ≠ 0) : oneR E k z told = ([], c) := by
  unfold oneR
  rw [h, if_pos hc]
theorem one_yes {E : List Att} {k : Nat} {z : Txt} {told now : List Txt} (h : nowR k (cont2 E z) told = (now, 0)) : oneR E k z told = if (decide (16 < now.length) || decide (24 < (setR E z now).length)) = true then ([], 3) else (setR E z now, 0) := by
  unfold oneR
  rw [h]
  simp
theorem keepR_take {l : List Txt} {j : Nat} {x : Txt} (vs : List Txt) (h : l[j]? = some x) : (l.take (j + 1)).filter (fun v => !vs.contains v) = (l.take j).filter (fun v => !vs.contains v) ++ (if vs.contains x = true then [] else [x]) := by
  rw [List.take_add_one, h, List.filter_append]
  cases hq : vs.contains x
  · simp only [Option.toList_some, List.filter_cons, List.filter_nil, hq, Bool.not_false, if_true, Bool.false_eq_true, if_false]
  · simp only [Option.toList_some, List.filter_cons, List.filter_nil, hq, Bool.not_true, if_true, Bool.false_eq_true, if_false]
theorem cont2_few {E : List Att} {m : Nat} (h : ∀ a ∈ E, a.2.length ≤ m) (k : Txt) : (cont2 E k).length ≤ m := by
  by_cases hk : cont2 E k = []
  · rw [hk]; simp
  · exact h _ (cont2_ne hk)
set_option maxHeartbeats 32000000 in
theorem rone7_is (A : Option Addr) (n c : Nat) (l : List At7) (K : Int) (nm : Txt) (aA : Option Addr) (an ac : Nat) (vs : List Txt) (w : World) (h : EntIn w A n l) (hf : Few7 1000 l) (hm : At7.fits w ⟨nm, aA, an, ac, vs⟩) (hok : modOk K nm vs = true) :
    Calls Tryz.prog 37 #[.slice A n c, .agg #[.int .i64 K, tv nm, .slice aA an ac]] w (EnrQ (oneR (ents l) K.toNat (smallL nm) vs) w) := by
  obtain ⟨iu, hiu, hzu0, hzu1, hzu2⟩ := info_parts str_info7
  obtain ⟨hnm, hnc, hac, hV⟩ := hm
  dsimp only at hnm hnc hac hV
  obtain ⟨hK1, hK3, han⟩ : 1 ≤ K ∧ K ≤ 3 ∧ vs.length ≤ 16 := by
    unfold modOk at hok
    split at hok
    · cases hok
    · omega
  have han : an ≤ 16 := by rw [← hV.1]; exact han
  have hn : n ≤ 1000 := by rw [← h.1]; exact hf.1
  have HD := Lib.hid h
  have HVS := Lib.hid hV
  have HVL : Hid (vs.length = an) := hV.1
  have HZL : Hid ((smallL nm).length ≤ 9223372036854775807) := by show _ ≤ _; rw [smallL_len]; exact hnm
  have HSM := Lib.hid (fun X : World => rsmall_is nm X hnm)
  have HGT := Lib.hid (fun X (hX : Keeps [] w X) => rget_is A n c l (smallL nm) X (EntIn.grow hX h) (by omega) HZL.out)
  have HSE := Lib.hid (fun (B : Option Addr) (m d : Nat) (us : List Txt) (X : World) (hX : Keeps [] w X) (hz : At7.fits X ⟨smallL nm, B, m, d, us⟩) => rset_is A n c l (smallL nm) B m d us X (EntIn.grow hX h) hz (by omega))
  have HHL : Hid ((cont2 (ents l) (smallL nm)).length ≤ 1000) := cont2_few (fun a ha => by
    unfold ents at ha
    obtain ⟨x, hx, rfl⟩ := List.mem_map.1 ha
    show x.vs.length ≤ 1000
    rw [(h.2.1 x hx).2.2.2.1]
    exact hf.2 x hx) _
  have HK0 : Hid (Keeps [] w (w.alloc (.cells #[.int .i64 K, .string ⟨nm.toArray⟩, .slice aA an ac] 49))) := (Keeps.refl [] w).alloc _
  have hb0 := heap_new8 w (.cells #[.int .i64 K, .string ⟨nm.toArray⟩, .slice aA an ac] 49)
  obtain ⟨W0, hW0⟩ : ∃ W0, w.alloc (.cells #[.int .i64 K, .string ⟨nm.toArray⟩, .slice aA an ac] 49) = W0 := ⟨_, rfl⟩
  rw [hW0] at HK0 hb0
  obtain ⟨g, hg⟩ : ∃ g, w.heap.size = g := ⟨_, rfl⟩
  rw [hg] at hb0
  have HF := Lib.hid (fun X (hX : Keeps [] W0 X) => cells3 (blk_keep hb0 hX (by simp)))
  obtain ⟨d0, d1, d2⟩ := HF.out W0 (Keeps.refl _ _)
  rw [smallL_idem] at HGT
  obtain ⟨P, hP⟩ : ∃ P, oneR (ents l) K.toNat (smallL nm) vs = P := ⟨_, rfl⟩
  rw [hP]
  have HP := Lib.hid hP
  obtain ⟨E, hE⟩ : ∃ E, ents l = E := ⟨_, rfl⟩
  obtain ⟨z, hz⟩ : ∃ z, smallL nm = z := ⟨_, rfl⟩
  rw [hE] at HGT HSE HHL HP
  rw [hz] at HGT HSE HHL HP HSM HZL
  obtain ⟨has, hhas⟩ : ∃ has, cont2 E z = has := ⟨_, rfl⟩
  rw [hhas] at HGT HHL
  have HHS := Lib.hid hhas
  unfold tv
  clear h hf hok hV hnm hP hE hz hhas hb0
  go_enter Tryz.func37, Tryz.ntmps37
  go_wp2_with fail
  refine (HSM.out _).mono ?_
  rintro e w1 ⟨rfl, hk1⟩
  have HK1 := Lib.hid hk1
  clear hk1 d0 d1 d2
  go_wp2_with fail
  refine (HGT.out _ (HK0.out.trans' HK1.out)).mono ?_
  rintro e w2 ⟨A7, c7, rfl, hs7, hc7, hd7, hk2⟩
  have HK2 : Hid (Keeps [] W0 w2) := HK1.out.trans' hk2
  have HS7 : Hid (StrsIn w2 A7 has.length has ∧ has.length ≤ c7 ∧ c7 ≤ 9223372036854775807) := ⟨hs7, hc7, hd7⟩
  obtain ⟨hn7, hhn⟩ : ∃ hn7, has.length = hn7 := ⟨_, rfl⟩
  have HHN := Lib.hid hhn
  have hh9 : hn7 ≤ 1000 := by rw [← hhn]; exact HHL.out
  rw [hhn] at HS7
  rw [hhn]
  obtain ⟨d0, d1, d2⟩ := HF.out w2 HK2.out
  clear hs7 hc7 hd7 hk2 hhn
  have HVS0 : Hid (StrsIn W0 aA an vs) := StrsIn.grow HK0.out HVS.out
  rcases (by omega : K = 1 ∨ K = 2 ∨ K = 3) with rfl | rfl | rfl
  · -- add
    have HNWA : Hid (nowR (1 : Int).toNat (cont2 E z) vs = if twiceR (has ++ vs) = true then ([], 170) else (vs.foldl withR has, 0)) := by
      show _ = _
      rw [HHS.out]
      rfl
    obtain ⟨q, hq⟩ : ∃ q, twiceR (has ++ vs) = q := ⟨_, rfl⟩
    rw [hq] at HNWA
    have HQ := Lib.hid hq
    clear hq
    go_wp2_with fail
    refine wp_region_held_drew (S := (fun X => X.cell? ⟨g, 2, none⟩ = some (.slice aA an ac))) (by kernel_rfl) (HF.out _ (HK2.out.trans' ((Keeps.refl [] w2).drew))).2.2 ?_
    intro HS
    refine wpAnyH_take (i := 0) (v := .slice A7 hn7 c7) rfl (by kernel_rfl) (by kernel_rfl) (by kernel_rfl) (fun _ _ _ h => h) (Or.inl ⟨by kernel_rfl, ?_⟩) HS ?_
    · intro w5 hw5
      obtain d2 := hw5
      go_simp
    simp only [List.getElem_toArray, List.getElem_cons_succ, List.getElem_cons_zero, Act.put, List.setIfInBounds_toArray, List.set_cons_zero, List.set_cons_succ]
    refine wpAnyH_take (i := 2) (v := .pointer (some ⟨g, 2, none⟩)) rfl (by kernel_rfl) (by kernel_rfl) (by kernel_rfl) (fun _ _ _ h => h) (Or.inl ⟨by kernel_rfl, ?_⟩) HS ?_
    · intro w5 hw5
      obtain d2 := hw5
      go_simp
    simp only [List.getElem_toArray, List.getElem_cons_succ, List.getElem_cons_zero, Act.put, List.setIfInBounds_toArray, List.set_cons_zero, List.set_cons_succ]
    refine wpAnyH_take (i := 3) (v := .slice aA an ac) rfl (by kernel_rfl) (by kernel_rfl) (by kernel_rfl) (fun _ _ _ h => h) (Or.inl ⟨by kernel_rfl, ?_⟩) HS ?_
    · intro w5 hw5
      obtain d2 := hw5
      go_simp
    simp only [List.getElem_toArray, List.getElem_cons_succ, List.getElem_cons_zero, Act.put, List.setIfInBounds_toArray, List.set_cons_zero, List.set_cons_succ]
    refine wpAnyH_ready (rs := [1]) (by kernel_rfl) (by simp) ?_
    refine AllReadyH.cons rfl (fun K hK => ?_) AllReadyH.nil
    rw [if_pos (by kernel_rfl)]
    refine wp_append_opt (.const (.slice none 0 0)) (.tmp 24) 40 rfl w2.heap.size 9 iu _ 1 16 Tryz.underlying40 hiu hzu0 hzu1 hzu2 rfl (by decide) (.slice none 0 0) 0 [] rfl (World.ownsRow_nil _ _ _ _) A7 hn7 c7 (has.map tv) rfl (by rw [List.length_map, HHN.out, Nat.mul_one]) (StrsIn.src (StrsIn.grow ((Keeps.refl [] w2).drew) HS7.out.1)) (tvs_one has) (by unfold maxLen; omega) (by omega) (by exact Nat.le_refl _) ?_
    intro v5 w5 ho5 hg5 hs5
    obtain ⟨A5, c5, hv5⟩ := own_slice ho5
    subst hv5
    have HK5 : Hid (Keeps [] w2 w5) := keeps_own7 (World.ownsRow_nil w2.drew w2.heap.size 9 1) ((Keeps.refl [] w2).drew) hg5
    refine hK.out _ _ (HF.out _ (HK2.out.trans' HK5.out)).2.2 (fun HS => ?_)
    clear hK K
    simp only [List.getElem_toArray, List.getElem_cons_succ, List.getElem_cons_zero, Act.put, List.setIfInBounds_toArray, List.set_cons_zero, List.set_cons_succ]
    rw [Nat.zero_add, List.nil_append] at ho5
    rw [Nat.zero_add]
    refine wpAnyH_ready (rs := [4]) (by kernel_rfl) (by simp) ?_
    refine AllReadyH.cons rfl (fun K hK => ?_) AllReadyH.nil
    rw [if_pos (by kernel_rfl)]
    refine wp_append_opt (.tmp 25) (.tmp 27) 40 rfl w2.heap.size 9 iu _ 1 16 Tryz.underlying40 hiu hzu0 hzu1 hzu2 rfl (by decide) (.slice A5 hn7 c5) hn7 (has.map tv) rfl ho5 aA an ac (vs.map tv) rfl (by rw [List.length_map, HVL.out, Nat.mul_one]) (StrsIn.src (StrsIn.grow (HK2.out.trans' HK5.out) HVS0.out)) (tvs_one vs) (by unfold maxLen; omega) (by omega) HK5.out.size ?_
    intro v6 w6 ho6 hg6 hs6
    obtain ⟨A6, c6, hv6⟩ := own_slice ho6
    subst hv6
    have HK6 : Hid (Keeps [] w2 w6) := keeps_own7 ho5 HK5.out hg6
    refine hK.out _ _ (HF.out _ (HK2.out.trans' HK6.out)).2.2 (fun HS => ?_)
    clear hK K
    simp only [List.getElem_toArray, List.getElem_cons_succ, List.getElem_cons_zero, Act.put, List.setIfInBounds_toArray, List.set_cons_zero, List.set_cons_succ]
    have HTW := Lib.hid (rtwice_is A6 (hn7 + an) c6 (has ++ vs) w6 (StrsIn.of_own (by rw [List.map_append]; exact ho6) (by rw [List.length_append, HHN.out, HVL.out]) (fun s hs => by
      rcases List.mem_append.1 hs with h9 | h9
      · exact HS7.out.1.2.1 s h9
      · exact HVS.out.2.1 s h9)) (by omega) (own_caps ho6).1 (own_caps ho6).2)
    rw [HQ.out] at HTW
    clear ho5 ho6 hg5 hg6 hs5 hs6
    refine wpAnyH_ready (rs := [5]) (by kernel_rfl) (by simp) ?_
    refine AllReadyH.cons rfl (fun K hK => ?_) AllReadyH.nil
    go_simp
    refine HTW.out.mono ?_
    rintro e w7 ⟨rfl, hk7⟩
    have HK7 : Hid (Keeps [] W0 w7) := HK2.out.trans' (HK6.out.trans' hk7)
    have HK72 : Hid (Keeps [] w2 w7) := HK6.out.trans' hk7
    clear hk7
    refine hK.out _ _ (HF.out _ HK7.out).2.2 (fun HS => ?_)
    clear hK K
    refine wpAnyH_done (by kernel_rfl) ?_ _
    obtain ⟨d0, d1, d2⟩ := HF.out w7 HK7.out
    have HS77 : Hid (StrsIn w7 A7 hn7 has ∧ hn7 ≤ c7 ∧ c7 ≤ 9223372036854775807) := ⟨StrsIn.grow HK72.out HS7.out.1, HS7.out.2⟩
    cases q
    · have HNW : Hid (nowR (1 : Int).toNat (cont2 E z) vs = (vs.foldl withR has, 0)) := by show _ = _; rw [HNWA.out]; rfl
      clear HNWA HQ HTW
      have HKU : Hid (Keeps [] W0 w7) := HK7.out
      obtain ⟨U, hU⟩ : ∃ U : World, U = w7 := ⟨_, rfl⟩
      subst hU
      go_wp2_with fail
      go_loopw [8, 9] (fun v i2 wq => ∃ (A9 : Option Addr) (c9 m q : Nat), v = .slice A9 m c9 ∧ i2 = .int .i64 (q : Int) ∧ q ≤ an ∧ Hid (m = ((vs.take q).foldl withR has).length) ∧ Hid (StrsIn wq A9 m ((vs.take q).foldl withR has) ∧ m ≤ c9 ∧ c9 ≤ 9223372036854775807) ∧ Hid (Keeps [] U wq)) (fun _ i2 _ => an - (intOf i2).toNat)
      case atStart => exact ⟨A7, c7, hn7, 0, rfl, rfl, Nat.zero_le _, HHN.out.symm, HS77.out, Keeps.refl _ _⟩
      case round =>
        obtain ⟨A9, c9, m, q, rfl, rfl, hq, HM, HSQ, HKQ⟩ := hrel
        obtain ⟨d0, d1, d2⟩ := HF.out wr (HKU.out.trans' HKQ.out)
        have hm9 : m ≤ 20000 := by
          have h9 := withs_len (vs.take q) has
          rw [← HM.out, List.length_take] at h9
          have h8 := HHL.out
          first | omega | (simp at h9; omega)
        by_cases hlq : q < an
        · obtain ⟨hv1, hv2, hv3⟩ := StrsIn.grow (HKU.out.trans' HKQ.out) HVS0.out
          obtain ⟨b4, o4, hA4, hc4⟩ := hv3 (by omega)
          subst hA4
          obtain ⟨s, hs⟩ : ∃ v, vs[q]? = some v := ⟨_, List.getElem?_eq_getElem (by omega)⟩
          have v1 := hc4 q s hs
          have HWI := Lib.hid (rwith_is A9 m c9 _ s wr HSQ.out.1 (hv2 s (List.mem_of_getElem? hs)) (by omega))
          have HTQ := Lib.hid (withs_take hs has)
          rw [← HTQ.out] at HWI
          unfold tv at v1
          have hqi : (q : Int) < (an : Int) := by omega
          have hq0 : (0 : Int) ≤ (q : Int) := by omega
          clear hv1 hv2 hv3 hc4 hs HTQ
          go_wp2_with fail
          refine HWI.out.mono ?_
          rintro e w6 ⟨A6, c6, rfl, hs6, hc6, hd6, hk6⟩
          have HS6 : Hid (StrsIn w6 A6 ((vs.take (q + 1)).foldl withR has).length ((vs.take (q + 1)).foldl withR has) ∧ ((vs.take (q + 1)).foldl withR has).length ≤ c6 ∧ c6 ≤ 9223372036854775807) := ⟨hs6, hc6, hd6⟩
          have HK6 := Lib.hid (HKQ.out.trans' hk6)
          clear hs6 hc6 hd6 hk6
          go_wp2_with fail
          go_roundw
          case rel => exact ⟨A6, c6, _, q + 1, rfl, by go_num, by omega, rfl, HS6.out, HK6.out⟩
          case measure => simp [intOf]; omega
        · obtain rfl : q = an := by omega
          have h9 : vs.take q = vs := List.take_of_length_le (by rw [HVS.out.1]; exact Nat.le_refl _)
          have hm := HM.out
          rw [h9] at hm HSQ
          obtain ⟨now, hnow⟩ : ∃ now, vs.foldl withR has = now := ⟨_, rfl⟩
          rw [hnow] at hm HSQ HNW
          have HLN : Hid (now.length = m) := hm.symm
          have HKW : Hid (Keeps [] w wr) := HK0.out.trans' (HKU.out.trans' HKQ.out)
          clear h9 hnow hm HM
          have HPY : Hid (P = if (decide (16 < m) || decide (24 < (setR E z now).length)) = true then ([], 3) else (setR E z now, 0)) := by
            show _ = _
            rw [← HP.out, one_yes HNW.out, HLN.out]
          go_wp2_with fail
          refine (HSE.out A9 m c9 now _ HKW.out ⟨HZL.out, HSQ.out.2.1, HSQ.out.2.2, HSQ.out.1⟩).mono ?_
          rintro e w9 ⟨A9, n9, c9, rfl, hQ9, hk9⟩
          have HQ9 : Hid (EntQ (setR E z now) w A9 n9 c9 w9) := hQ9
          have HK9 : Hid (Keeps [] w w9) := HKW.out.trans' hk9
          have hn9 : (setR E z now).length = n9 := by
            obtain ⟨L9, e1, e2, _⟩ := hQ9
            rw [← e1, ents_len, e2.1]
          rw [hn9] at HPY
          clear hQ9 hk9 hn9
          by_cases h16 : 16 < m
          · have h16i : (16 : Int) < (m : Int) := by omega
            have HPE : Hid (P = ([], 3)) := by show _ = _; rw [HPY.out]; simp [h16]
            go_wp2_with fail
            refine bodyPost_ret (results_tmp2 rfl _ _ _) rfl ?_
            rw [HPE.out]
            exact EnrQ.no HK9.out
          · have h16i : ¬ (16 : Int) < (m : Int) := by omega
            by_cases h24 : 24 < n9
            · have h24i : (24 : Int) < (n9 : Int) := by omega
              have HPE : Hid (P = ([], 3)) := by show _ = _; rw [HPY.out]; simp [h24]
              go_wp2_with fail
              refine bodyPost_ret (results_tmp2 rfl _ _ _) rfl ?_
              rw [HPE.out]
              exact EnrQ.no HK9.out
            · have h24i : ¬ (24 : Int) < (n9 : Int) := by omega
              have HPE : Hid (P = (setR E z now, 0)) := by show _ = _; rw [HPY.out]; simp [h16, h24]
              go_wp2_with fail
              refine bodyPost_ret (results_tmp2 rfl _ _ _) rfl ?_
              rw [HPE.out]
              exact ⟨A9, n9, c9, rfl, HQ9.out, HK9.out⟩
    · have HNW : Hid (nowR (1 : Int).toNat (cont2 E z) vs = ([], 170)) := by show _ = _; rw [HNWA.out]; rfl
      clear HNWA HQ HTW
      have HPE : Hid (P = ([], 170)) := by show _ = _; rw [← HP.out, one_no HNW.out (by decide)]
      go_wp2_with fail
      refine bodyPost_ret (results_tmp2 rfl _ _ _) rfl ?_
      rw [HPE.out]
      exact EnrQ.no (HK0.out.trans' HK7.out)
  · -- delete
    have HNWA : Hid (nowR (2 : Int).toNat (cont2 E z) vs = if (decide (vs = []) && decide (has = []) || twiceR vs) = true then ([], 171) else if vs.all (fun v => has.contains v) = false then ([], 171) else (if vs = [] then [] else has.filter (fun v => !vs.contains v), 0)) := by
      show _ = _
      rw [HHS.out]
      rfl
    have HTW := Lib.hid (rtwice_is aA an ac vs w2 (StrsIn.grow HK2.out HVS0.out) (by omega) hnc hac)
    obtain ⟨q, hq⟩ : ∃ q, twiceR vs = q := ⟨_, rfl⟩
    rw [hq] at HTW
    have HQ := Lib.hid hq
    clear hq
    by_cases ha0 : an = 0
    · have hvn : vs = [] := List.length_eq_zero_iff.1 (by rw [HVL.out]; exact ha0)
      have HVN := Lib.hid hvn
      subst ha0
      by_cases hh0 : hn7 = 0
      · have hh0i : (hn7 : Int) = 0 := by omega
        have hh0b : ((hn7 : Int) == 0) = true := by simpa using hh0
        have hhn : has = [] := List.length_eq_zero_iff.1 (by rw [HHN.out]; exact hh0)
        have HNW : Hid (nowR (2 : Int).toNat (cont2 E z) vs = ([], 171)) := by
          show _ = _
          rw [HNWA.out, hvn, hhn]
          rfl
        clear HNWA hvn hhn
        have HPE : Hid (P = ([], 171)) := by show _ = _; rw [← HP.out, one_no HNW.out (by decide)]
        go_wp2_with fail
        refine bodyPost_ret (results_tmp2 rfl _ _ _) rfl ?_
        rw [HPE.out]
        exact EnrQ.no (HK0.out.trans' HK2.out)
      · have hh0i : ¬ (hn7 : Int) = 0 := by omega
        have hh0b : ((hn7 : Int) == 0) = false := by simpa using hh0
        have HB0 : Hid ((decide (vs = []) && decide (has = [])) = false) := by
          show _ = _
          have : has ≠ [] := fun e => hh0 (by rw [← HHN.out, e]; rfl)
          simp [this]
        clear hvn
        go_wp2_with fail
        refine HTW.out.mono ?_
        rintro e w7 ⟨rfl, hk7⟩
        clear HTW d0 d1 d2
        cases q
        · clear hh0i hh0b
          have HNW : Hid (nowR (2 : Int).toNat (cont2 E z) vs = ([], 0)) := by
            show _ = _
            rw [HNWA.out, HB0.out, HQ.out, HVN.out]
            rfl
          have HK7 : Hid (Keeps [] W0 w7) := HK2.out.trans' hk7
          obtain ⟨d0, d1, d2⟩ := HF.out w7 HK7.out
          have hh1i : (0 : Int) < (hn7 : Int) := by omega
          clear hk7 HNWA
          obtain ⟨U, hU⟩ : ∃ U : World, U = w7 := ⟨_, rfl⟩
          subst hU
          go_wp2_with fail
          go_loopw [10] (fun i2 wq => i2 = .int .i64 0 ∧ wq = U) (fun i2 _ => 0)
          case atStart => exact ⟨rfl, rfl⟩
          case round =>
            obtain ⟨rfl, rfl⟩ := hrel
            obtain ⟨U, hU⟩ : ∃ U : World, U = wr := ⟨_, rfl⟩
            subst hU
            go_wp2_with fail
            go_loopw [8, 11] (fun v i2 wq => v = .slice none 0 0 ∧ i2 = .int .i64 0 ∧ wq = U) (fun _ i2 _ => 0)
            case atStart => exact ⟨rfl, rfl, rfl⟩
            case round =>
              obtain ⟨rfl, rfl, rfl⟩ := hrel
              have HLN : Hid (([] : List Txt).length = 0) := rfl
              have HSQ : Hid (StrsIn wr none 0 [] ∧ 0 ≤ 0 ∧ 0 ≤ 9223372036854775807) := ⟨StrsIn.nil _ _, Nat.le_refl _, by omega⟩
              have HKW : Hid (Keeps [] w wr) := HK0.out.trans' HK7.out
              have HPY : Hid (P = if (decide (16 < 0) || decide (24 < (setR E z []).length)) = true then ([], 3) else (setR E z [], 0)) := by
                show _ = _
                rw [← HP.out, one_yes HNW.out, HLN.out]
              go_wp2_with fail
              refine (HSE.out none 0 0 [] _ HKW.out ⟨HZL.out, HSQ.out.2.1, HSQ.out.2.2, HSQ.out.1⟩).mono ?_
              rintro e w9 ⟨A9, n9, c9, rfl, hQ9, hk9⟩
              have HQ9 : Hid (EntQ (setR E z []) w A9 n9 c9 w9) := hQ9
              have HK9 : Hid (Keeps [] w w9) := HKW.out.trans' hk9
              have hn9 : (setR E z []).length = n9 := by
                obtain ⟨L9, e1, e2, _⟩ := hQ9
                rw [← e1, ents_len, e2.1]
              rw [hn9] at HPY
              clear hQ9 hk9 hn9
              by_cases h16 : 16 < 0
              · have h16i : (16 : Int) < (0 : Int) := by omega
                have HPE : Hid (P = ([], 3)) := by show _ = _; rw [HPY.out]; simp [h16]
                go_wp2_with fail
                refine bodyPost_ret (results_tmp2 rfl _ _ _) rfl ?_
                rw [HPE.out]
                exact EnrQ.no HK9.out
              · have h16i : ¬ (16 : Int) < (0 : Int) := by omega
                by_cases h24 : 24 < n9
                · have h24i : (24 : Int) < (n9 : Int) := by omega
                  have HPE : Hid (P = ([], 3)) := by show _ = _; rw [HPY.out]; simp [h24]
                  go_wp2_with fail
                  refine bodyPost_ret (results_tmp2 rfl _ _ _) rfl ?_
                  rw [HPE.out]
                  exact EnrQ.no HK9.out
                · have h24i : ¬ (24 : Int) < (n9 : Int) := by omega
                  have HPE : Hid (P = (setR E z [], 0)) := by show _ = _; rw [HPY.out]; simp [h16, h24]
                  go_wp2_with fail
                  refine bodyPost_ret (results_tmp2 rfl _ _ _) rfl ?_
                  rw [HPE.out]
                  exact ⟨A9, n9, c9, rfl, HQ9.out, HK9.out⟩
        · have HNW : Hid (nowR (2 : Int).toNat (cont2 E z) vs = ([], 171)) := by
            show _ = _
            rw [HNWA.out, HB0.out, HQ.out]
            rfl
          have HK7 : Hid (Keeps [] W0 w7) := HK2.out.trans' hk7
          have HPE : Hid (P = ([], 171)) := by show _ = _; rw [← HP.out, one_no HNW.out (by decide)]
          go_wp2_with fail
          refine bodyPost_ret (results_tmp2 rfl _ _ _) rfl ?_
          rw [HPE.out]
          exact EnrQ.no (HK0.out.trans' HK7.out)
    · have ha0i : ¬ (an : Int) = 0 := by omega
      have ha0b : ((an : Int) == 0) = false := by simpa using ha0
      have HB0 : Hid ((decide (vs = []) && decide (has = [])) = false) := by
        show _ = _
        have : vs ≠ [] := fun e => ha0 (by rw [← HVL.out, e]; rfl)
        simp [this]
      go_wp2_with fail
      refine HTW.out.mono ?_
      rintro e w7 ⟨rfl, hk7⟩
      clear HTW d0 d1 d2
      cases q
      · clear ha0b ha0i
        have HB : Hid ((decide (vs = []) && decide (has = []) || twiceR vs) = false) := by show _ = _; rw [HB0.out, HQ.out]; rfl
        have HK7 : Hid (Keeps [] W0 w7) := HK2.out.trans' hk7
        have HS77 : Hid (StrsIn w7 A7 hn7 has ∧ hn7 ≤ c7 ∧ c7 ≤ 9223372036854775807) := ⟨StrsIn.grow hk7 HS7.out.1, HS7.out.2⟩
        obtain ⟨d0, d1, d2⟩ := HF.out w7 HK7.out
        clear hk7
        obtain ⟨U, hU⟩ : ∃ U : World, U = w7 := ⟨_, rfl⟩
        subst hU
        go_wp2_with fail
        go_loopw [10] (fun i2 wq => ∃ j : Nat, i2 = .int .i64 (j : Int) ∧ j ≤ an ∧ Hid ((vs.take j).all (fun v => has.contains v) = true) ∧ wq = U) (fun i2 _ => an - (intOf i2).toNat)
        case atStart => exact ⟨0, rfl, Nat.zero_le _, by simp [Hid], rfl⟩
        case round =>
          obtain ⟨j, rfl, hj, HA, rfl⟩ := hrel
          by_cases hlt : j < an
          · obtain ⟨hv1, hv2, hv3⟩ := StrsIn.grow HK7.out HVS0.out
            obtain ⟨b4, o4, hA4, hc4⟩ := hv3 (by omega)
            subst hA4
            obtain ⟨s, hs⟩ : ∃ v, vs[j]? = some v := ⟨_, List.getElem?_eq_getElem (by omega)⟩
            have v1 := hc4 j s hs
            have HAM := Lib.hid (ramong_is A7 hn7 c7 has s wr HS77.out.1 (by omega))
            have HT := Lib.hid (all_take7 (p := fun v => has.contains v) hs)
            have HC := Lib.hid (fun h => all_cut7 (p := fun v => has.contains v) hs h)
            obtain ⟨q5, hq5⟩ : ∃ q, has.contains s = q := ⟨_, rfl⟩
            rw [hq5] at HAM
            have HQ5 := Lib.hid hq5
            unfold tv at v1
            have hqi : (j : Int) < (an : Int) := by omega
            have hq0 : (0 : Int) ≤ (j : Int) := by omega
            clear hv1 hv2 hv3 hc4 hs hq5
            go_wp2_with fail
            refine HAM.out.mono ?_
            rintro e w8 ⟨rfl, rfl⟩
            cases q5
            · have HNW : Hid (nowR (2 : Int).toNat (cont2 E z) vs = ([], 171)) := by
                show _ = _
                rw [HNWA.out, HB.out, HC.out HQ5.out]
                rfl
              have HPE : Hid (P = ([], 171)) := by show _ = _; rw [← HP.out, one_no HNW.out (by decide)]
              go_wp2_with fail
              refine bodyPost_ret (results_tmp2 rfl _ _ _) rfl ?_
              rw [HPE.out]
              exact EnrQ.no (HK0.out.trans' HK7.out)
            · go_wp2_with fail
              go_roundw
              case rel => exact ⟨j + 1, by go_num, by omega, by show _ = _; rw [HT.out, HA.out, HQ5.out]; rfl, trivial⟩
              case measure => simp [intOf]; omega
          · obtain rfl : j = an := by omega
            have h9 := HA.out
            rw [List.take_of_length_le (by rw [HVL.out]; exact Nat.le_refl _)] at h9
            have HNW0 : Hid (nowR (2 : Int).toNat (cont2 E z) vs = (if vs = [] then [] else has.filter (fun v => !vs.contains v), 0)) := by
              show _ = _
              rw [HNWA.out, HB.out, h9]
              rfl
            clear h9 HNWA HB HQ HB0 hlt hj
            obtain ⟨U, hU⟩ : ∃ U : World, U = wr := ⟨_, rfl⟩
            subst hU
            go_wp2_with fail
            go_loopw [8, 11] (fun v i2 wq => ∃ (A9 : Option Addr) (c9 m i : Nat), v = .slice A9 m c9 ∧ i2 = .int .i64 (i : Int) ∧ i ≤ hn7 ∧ Hid (OutS U wq A9 m c9 ((has.take i).filter (fun v => !vs.contains v)))) (fun _ i2 _ => hn7 - (intOf i2).toNat)
            case atStart => exact ⟨none, 0, 0, 0, rfl, rfl, Nat.zero_le _, OutS.nil U⟩
            case round =>
              obtain ⟨A9, c9, m, i, rfl, rfl, hi, HO⟩ := hrel
              obtain ⟨d0, d1, d2⟩ := HF.out wr (HK7.out.trans' HO.out.keep)
              have hm9 : m ≤ 1000 := by
                have h9 := List.length_filter_le (fun v => !vs.contains v) (has.take i)
                rw [HO.out.len, List.length_take] at h9
                omega
              by_cases hlt : i < hn7
              · have hii : (i : Int) < (hn7 : Int) := by omega
                · have hj0i : (0 : Int) < (j : Int) := by omega
                  obtain ⟨hv1, hv2, hv3⟩ := StrsIn.grow HO.out.keep HS77.out.1
                  obtain ⟨b5, o5, hA5, hc5⟩ := hv3 (by omega)
                  have HA7 := Lib.hid hA5
                  obtain ⟨x, hs⟩ : ∃ v, has[i]? = some v := ⟨_, List.getElem?_eq_getElem (by rw [HHN.out]; exact hlt)⟩
                  have v1 := hc5 i x hs
                  have HXL : Hid (x.length ≤ 9223372036854775807) := hv2 x (List.mem_of_getElem? hs)
                  have HAM := Lib.hid (fun X (hX : Keeps [] wr X) => ramong_is aA j ac vs x X (StrsIn.grow (HK7.out.trans' (HO.out.keep.trans' hX)) HVS0.out) (by omega))
                  have HT := Lib.hid (keepR_take vs hs)
                  obtain ⟨q5, hq5⟩ : ∃ q, vs.contains x = q := ⟨_, rfl⟩
                  rw [hq5] at HAM HT
                  unfold tv at v1
                  subst hA5
                  have hq0 : (0 : Int) ≤ (i : Int) := by omega
                  have HV1 : Hid (∀ X, Keeps [] wr X → X.cell? ⟨b5, o5 + i, none⟩ = some (.string ⟨x.toArray⟩)) := fun X hX => (hX.cell (lt_of_cell v1) (by simp)).trans v1
                  clear hv1 hv2 hv3 hc5 hs hq5
                  cases q5
                  · go_wp2_with fail
                    go_quiet (first | (go_at_call 69; refine Calls.quiet_of_same ((HAM.out _ ((Keeps.refl [] wr).drewN _)).mono fun e w1 hh => ⟨hh.1, hh.2.symm⟩)))
                    obtain ⟨X8, hX8⟩ : ∃ X8, wr.drewN nq = X8 := ⟨_, rfl⟩
                    have HX8 : Hid (Keeps [] wr X8) := by rw [← hX8]; exact (Keeps.refl [] wr).drewN _
                    rw [hX8]
                    have v1 := HV1.out X8 HX8.out
                    go_wp2_with (at_builtin; refine wpList_append_opt rfl (.tmp 96) (.tmp 101) 40 rfl U.heap.size 9 iu _ 1 16 Tryz.underlying40 hiu hzu0 hzu1 hzu2 rfl (by decide) (.slice A9 m c9) m (((has.take i).filter (fun v => !vs.contains v)).map tv) rfl (own_keep HO.out.row (HX8.out.alloc _) (by simp)) (some ⟨X8.heap.size, 0, none⟩) 1 1 [tv x] rfl rfl (src_one7 X8 x _) (by intro u hu; simp at hu; subst hu; rfl) (by unfold maxLen; omega) (by omega) (by have h9 := (HO.out.keep.trans' HX8.out).size; simp; omega) ?_; intro v5 w5 ho hg5 hs5; obtain ⟨A5, c5, hv5⟩ := own_slice ho; subst hv5; have HX5 := Lib.hid (HO.out.snoc (HX8.out.alloc _) hg5 ho HXL.out); clear ho hg5 hs5)
                    go_roundw
                    case rel => exact ⟨A5, c5, m + 1, i + 1, rfl, by go_num, by omega, by show OutS _ _ _ _ _ _; rw [HT.out]; exact HX5.out⟩
                    case measure => simp [intOf]; omega
                  · go_wp2_with fail
                    go_quiet (first | (go_at_call 69; refine Calls.quiet_of_same ((HAM.out _ ((Keeps.refl [] wr).drewN _)).mono fun e w1 hh => ⟨hh.1, hh.2.symm⟩)))
                    have HX8 : Hid (Keeps [] wr (wr.drewN nq)) := (Keeps.refl [] wr).drewN _
                    go_wp2_with fail
                    go_roundw
                    case rel => exact ⟨A9, c9, m, i + 1, rfl, by go_num, by omega, by show OutS _ _ _ _ _ _; rw [HT.out]; simp only [if_true, List.append_nil]; exact HO.out.on HX8.out⟩
                    case measure => simp [intOf]; omega
              · obtain rfl : i = hn7 := by omega
                have h9 := HO.out
                rw [List.take_of_length_le (by rw [HHN.out]; exact Nat.le_refl _)] at h9
                have HNW : Hid (nowR (2 : Int).toNat (cont2 E z) vs = (has.filter (fun v => !vs.contains v), 0)) := by
                  show _ = _
                  rw [HNW0.out]
                  rw [if_neg (fun hv0 : vs = [] => ha0 (by rw [← HVL.out, hv0]; rfl))]
                obtain ⟨now, hnow⟩ : ∃ now, has.filter (fun v => !vs.contains v) = now := ⟨_, rfl⟩
                rw [hnow] at h9 HNW
                have HLN : Hid (now.length = m) := h9.len
                have HSQ : Hid (StrsIn wr A9 m now ∧ m ≤ c9 ∧ c9 ≤ 9223372036854775807) := ⟨h9.strs, (own_caps h9.row).1, (own_caps h9.row).2⟩
                have HKW : Hid (Keeps [] w wr) := HK0.out.trans' (HK7.out.trans' h9.keep)
                clear h9 hnow HO
                have HPY : Hid (P = if (decide (16 < m) || decide (24 < (setR E z now).length)) = true then ([], 3) else (setR E z now, 0)) := by
                  show _ = _
                  rw [← HP.out, one_yes HNW.out, HLN.out]
                go_wp2_with fail
                refine (HSE.out A9 m c9 now _ HKW.out ⟨HZL.out, HSQ.out.2.1, HSQ.out.2.2, HSQ.out.1⟩).mono ?_
                rintro e w9 ⟨A9, n9, c9, rfl, hQ9, hk9⟩
                have HQ9 : Hid (EntQ (setR E z now) w A9 n9 c9 w9) := hQ9
                have HK9 : Hid (Keeps [] w w9) := HKW.out.trans' hk9
                have hn9 : (setR E z now).length = n9 := by
                  obtain ⟨L9, e1, e2, _⟩ := hQ9
                  rw [← e1, ents_len, e2.1]
                rw [hn9] at HPY
                clear hQ9 hk9 hn9
                by_cases h16 : 16 < m
                · have h16i : (16 : Int) < (m : Int) := by omega
                  have HPE : Hid (P = ([], 3)) := by show _ = _; rw [HPY.out]; simp [h16]
                  go_wp2_with fail
                  refine bodyPost_ret (results_tmp2 rfl _ _ _) rfl ?_
                  rw [HPE.out]
                  exact EnrQ.no HK9.out
                · have h16i : ¬ (16 : Int) < (m : Int) := by omega
                  by_cases h24 : 24 < n9
                  · have h24i : (24 : Int) < (n9 : Int) := by omega
                    have HPE : Hid (P = ([], 3)) := by show _ = _; rw [HPY.out]; simp [h24]
                    go_wp2_with fail
                    refine bodyPost_ret (results_tmp2 rfl _ _ _) rfl ?_
                    rw [HPE.out]
                    exact EnrQ.no HK9.out
                  · have h24i : ¬ (24 : Int) < (n9 : Int) := by omega
                    have HPE : Hid (P = (setR E z now, 0)) := by show _ = _; rw [HPY.out]; simp [h16, h24]
                    go_wp2_with fail
                    refine bodyPost_ret (results_tmp2 rfl _ _ _) rfl ?_
                    rw [HPE.out]
                    exact ⟨A9, n9, c9, rfl, HQ9.out, HK9.out⟩
      · have HNW : Hid (nowR (2 : Int).toNat (cont2 E z) vs = ([], 171)) := by
          show _ = _
          rw [HNWA.out, HB0.out, HQ.out]
          rfl
        have HK7 : Hid (Keeps [] W0 w7) := HK2.out.trans' hk7
        have HPE : Hid (P = ([], 171)) := by show _ = _; rw [← HP.out, one_no HNW.out (by decide)]
        go_wp2_with fail
        refine bodyPost_ret (results_tmp2 rfl _ _ _) rfl ?_
        rw [HPE.out]
        exact EnrQ.no (HK0.out.trans' HK7.out)
  · -- replace
    have HNW : Hid (nowR (3 : Int).toNat (cont2 E z) vs = (vs.foldl withR [], 0)) := rfl
    have HKU : Hid (Keeps [] W0 w2) := HK2.out
    obtain ⟨U, hU⟩ : ∃ U : World, U = w2 := ⟨_, rfl⟩
    subst hU
    go_wp2_with fail
    go_loopw [8, 12] (fun v i2 wq => ∃ (A9 : Option Addr) (c9 m q : Nat), v = .slice A9 m c9 ∧ i2 = .int .i64 (q : Int) ∧ q ≤ an ∧ Hid (m = ((vs.take q).foldl withR []).length) ∧ Hid (StrsIn wq A9 m ((vs.take q).foldl withR []) ∧ m ≤ c9 ∧ c9 ≤ 9223372036854775807) ∧ Hid (Keeps [] U wq)) (fun _ i2 _ => an - (intOf i2).toNat)
    case atStart => exact ⟨none, 0, 0, 0, rfl, rfl, Nat.zero_le _, rfl, ⟨StrsIn.nil _ _, Nat.le_refl _, by omega⟩, Keeps.refl _ _⟩
    case round =>
      obtain ⟨A9, c9, m, q, rfl, rfl, hq, HM, HSQ, HKQ⟩ := hrel
      obtain ⟨d0, d1, d2⟩ := HF.out wr (HKU.out.trans' HKQ.out)
      have hm9 : m ≤ 20000 := by
        have h9 := withs_len (vs.take q) []
        rw [← HM.out, List.length_take] at h9
        have h8 := HHL.out
        first | omega | (simp at h9; omega)
      by_cases hlq : q < an
      · obtain ⟨hv1, hv2, hv3⟩ := StrsIn.grow (HKU.out.trans' HKQ.out) HVS0.out
        obtain ⟨b4, o4, hA4, hc4⟩ := hv3 (by omega)
        subst hA4
        obtain ⟨s, hs⟩ : ∃ v, vs[q]? = some v := ⟨_, List.getElem?_eq_getElem (by omega)⟩
        have v1 := hc4 q s hs
        have HWI := Lib.hid (rwith_is A9 m c9 _ s wr HSQ.out.1 (hv2 s (List.mem_of_getElem? hs)) (by omega))
        have HTQ := Lib.hid (withs_take hs [])
        rw [← HTQ.out] at HWI
        unfold tv at v1
        have hqi : (q : Int) < (an : Int) := by omega
        have hq0 : (0 : Int) ≤ (q : Int) := by omega
        clear hv1 hv2 hv3 hc4 hs HTQ
        go_wp2_with fail
        refine HWI.out.mono ?_
        rintro e w6 ⟨A6, c6, rfl, hs6, hc6, hd6, hk6⟩
        have HS6 : Hid (StrsIn w6 A6 ((vs.take (q + 1)).foldl withR []).length ((vs.take (q + 1)).foldl withR []) ∧ ((vs.take (q + 1)).foldl withR []).length ≤ c6 ∧ c6 ≤ 9223372036854775807) := ⟨hs6, hc6, hd6⟩
        have HK6 := Lib.hid (HKQ.out.trans' hk6)
        clear hs6 hc6 hd6 hk6
        go_wp2_with fail
        go_roundw
        case rel => exact ⟨A6, c6, _, q + 1, rfl, by go_num, by omega, rfl, HS6.out, HK6.out⟩
        case measure => simp [intOf]; omega
      · obtain rfl : q = an := by omega
        have h9 : vs.take q = vs := List.take_of_length_le (by rw [HVS.out.1]; exact Nat.le_refl _)
        have hm := HM.out
        rw [h9] at hm HSQ
        obtain ⟨now, hnow⟩ : ∃ now, vs.foldl withR [] = now := ⟨_, rfl⟩
        rw [hnow] at hm HSQ HNW
        have HLN : Hid (now.length = m) := hm.symm
        have HKW : Hid (Keeps [] w wr) := HK0.out.trans' (HKU.out.trans' HKQ.out)
        clear h9 hnow hm HM
        have HPY : Hid (P = if (decide (16 < m) || decide (24 < (setR E z now).length)) = true then ([], 3) else (setR E z now, 0)) := by
          show _ = _
          rw [← HP.out, one_yes HNW.out, HLN.out]
        go_wp2_with fail
        refine (HSE.out A9 m c9 now _ HKW.out ⟨HZL.out, HSQ.out.2.1, HSQ.out.2.2, HSQ.out.1⟩).mono ?_
        rintro e w9 ⟨A9, n9, c9, rfl, hQ9, hk9⟩
        have HQ9 : Hid (EntQ (setR E z now) w A9 n9 c9 w9) := hQ9
        have HK9 : Hid (Keeps [] w w9) := HKW.out.trans' hk9
        have hn9 : (setR E z now).length = n9 := by
          obtain ⟨L9, e1, e2, _⟩ := hQ9
          rw [← e1, ents_len, e2.1]
        rw [hn9] at HPY
        clear hQ9 hk9 hn9
        by_cases h16 : 16 < m
        · have h16i : (16 : Int) < (m : Int) := by omega
          have HPE : Hid (P = ([], 3)) := by show _ = _; rw [HPY.out]; simp [h16]
          go_wp2_with fail
          refine bodyPost_ret (results_tmp2 rfl _ _ _) rfl ?_
          rw [HPE.out]
          exact EnrQ.no HK9.out
        · have h16i : ¬ (16 : Int) < (m : Int) := by omega
          by_cases h24 : 24 < n9
          · have h24i : (24 : Int) < (n9 : Int) := by omega
            have HPE : Hid (P = ([], 3)) := by show _ = _; rw [HPY.out]; simp [h24]
            go_wp2_with fail
            refine bodyPost_ret (results_tmp2 rfl _ _ _) rfl ?_
            rw [HPE.out]
            exact EnrQ.no HK9.out
          · have h24i : ¬ (24 : Int) < (n9 : Int) := by omega
            have HPE : Hid (P = (setR E z now, 0)) := by show _ = _; rw [HPY.out]; simp [h16, h24]
            go_wp2_with fail
            refine bodyPost_ret (results_tmp2 rfl _ _ _) rfl ?_
            rw [HPE.out]
            exact ⟨A9, n9, c9, rfl, HQ9.out, HK9.out⟩
end Go.Proofs.YtfjlcfbomlfpfaaGreatDoor
