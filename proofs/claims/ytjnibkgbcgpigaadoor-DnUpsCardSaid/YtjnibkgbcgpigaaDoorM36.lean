/- Texts of one proof, laid together: N55. -/
import Derived.Test.YtjnibkgbcgpigaaDoorM35
import Derived.Test.YtjnibkgbcgpigaaDoorM24
import Derived.Test.YtjnibkgbcgpigaaDoorM25
import Derived.Test.YtjnibkgbcgpigaaDoorM26
/- dn: the name above, a name under another: the law. -/
namespace Go.Proofs.YtjnibkgbcgpigaaDoor
open Go.RowKit Go.Shelf
set_option linter.unusedVariables false
set_option linter.unusedSimpArgs false
set_option maxRecDepth 100000

theorem own_lit6 (w : World) (cs : Array Value) (e : TypeId) (size n : Nat) (hsz : cs.size = n * size) (hn : n ≤ maxLen) : (w.alloc (.cells cs e)).ownsRow w.heap.size e size (.slice (some ⟨w.heap.size, 0, none⟩) n n) n cs.toList :=
  ⟨by simpa using hsz, .inr ⟨w.heap.size, n, cs, rfl, Nat.le_refl _, heap_alloc_new w _, Nat.le_refl _, hn, hsz, List.take_of_length_le (by simp [hsz])⟩⟩

set_option maxHeartbeats 16000000 in
theorem dnups_keeps (r : Part6) (A : Option Addr) (n c : Nat) (d : List Part6) (w : World) (h1 : r.1.length ≤ 9223372036854775807) (h2 : r.2.length ≤ 9223372036854775807) (h0 : DnIn w A n d) (hnc : n ≤ c) (hcm : c ≤ 9223372036854775807) (hs : SynAt w) :
    Calls Tryd.prog 6 #[.agg #[tv r.1, tv r.2], .slice A n c] w fun e w' => e = .returned (.bool true) ∧ Keeps [] w w' := by
  obtain ⟨iu, hiu, hzu0, hzu1, hzu2⟩ := info_parts rdn_info
  obtain ⟨W1, hW1⟩ : ∃ W1, w.alloc (.cells #[tv r.1, tv r.2] 38) = W1 := ⟨_, rfl⟩
  have hk1 : Keeps [] w W1 := by rw [← hW1]; exact (Keeps.refl [] w).alloc _
  have hr1 : W1.heap[w.heap.size]? = some (.cells #[tv r.1, tv r.2] 38 (0, 0)) := by rw [← hW1]; exact heap_new8 w (.cells #[tv r.1, tv r.2] 38)
  obtain ⟨f0, f1⟩ := two_facts6 hr1
  obtain ⟨W2, hW2⟩ : ∃ W2, W1.alloc (.cells #[tv r.1, tv r.2] 38) = W2 := ⟨_, rfl⟩
  have hk12 : Keeps [] W1 W2 := by rw [← hW2]; exact (Keeps.refl [] W1).alloc _
  have hk2 : Keeps [] w W2 := hk1.trans' hk12
  have hr2 := blk_keep hr1 hk12 (by simp)
  have hone := one_rdn W1 r 38 h1 h2
  rw [hW2] at hone
  have HLA := Lib.hid (light_is A n c d W1 (h0.grow hk1))
  have HLR := Lib.hid (light_is _ 1 1 [r] W2 hone)
  have HKN := Lib.hid (fun X (hk : Keeps [] w X) => known6_is X (hs.keep hk (by simp)))
  have HF := Lib.hid (fun X (hk : Keeps [] W2 X) => two_facts6 (blk_keep hr2 hk (by simp)))
  have HW1 := Lib.hid hW1
  have HW2 := Lib.hid hW2
  have HK1 := Lib.hid hk1
  have HWW := Lib.hid hk2
  have hlen : d.length = n := h0.1
  have hpp : ∀ p ∈ r :: d, p.1.length ≤ 9223372036854775807 ∧ p.2.length ≤ 9223372036854775807 := fun p hp => by
    rcases List.mem_cons.1 hp with rfl | hp
    · exact ⟨h1, h2⟩
    · exact h0.2.1 p hp
  have HPP := Lib.hid hpp
  clear hW1 hW2 hr1 hr2 hk1 hk12 hone hs hpp
  cases hla : lightD d with
  | false =>
    rw [hla] at HLA
    obtain ⟨s, v⟩ := r
    dsimp only at *
    unfold tv at f0 f1 HW1 HW2 ⊢
    clear hla h0 h1 h2 hnc hcm hlen HF HLR hk2
    go_enter Tryd.func6, Tryd.ntmps6
    go_wp2_with fail
    rw [HW1.out]
    refine HLA.out.mono ?_
    rintro e w0 ⟨rfl, rfl⟩
    go_wp2_with fail
    refine (HKN.out _ HK1.out).mono ?_
    rintro e w1 ⟨rfl, hk⟩
    have HK := Lib.hid (HK1.out.trans' hk)
    clear hk
    go_wp2_with fail
    go_ret
    exact ⟨rfl, HK.out⟩
  | true =>
  rw [hla] at HLA
  cases hlr : lightD [r] with
  | false =>
    rw [hlr] at HLR
    obtain ⟨s, v⟩ := r
    dsimp only at *
    unfold tv at f0 f1 HW1 HW2 ⊢
    clear hla hlr h0 h1 h2 hnc hcm hlen HF hk2
    go_enter Tryd.func6, Tryd.ntmps6
    go_wp2_with fail
    rw [HW1.out]
    refine HLA.out.mono ?_
    rintro e w0 ⟨rfl, rfl⟩
    go_wp2_with fail
    rw [HW2.out]
    refine HLR.out.mono ?_
    rintro e w0 ⟨rfl, rfl⟩
    go_wp2_with fail
    refine (HKN.out _ HWW.out).mono ?_
    rintro e w1 ⟨rfl, hk⟩
    have HK := Lib.hid (HWW.out.trans' hk)
    clear hk
    go_wp2_with fail
    go_ret
    exact ⟨rfl, HK.out⟩
  | true =>
  rw [hlr] at HLR
  have hn20 : n ≤ 20 := by have := light_le hla; omega
  have hv : DnV W2 A n c d := ⟨h0.grow hk2, hnc, hcm, by omega⟩
  have HV := Lib.hid hv
  have HRR1 := Lib.hid (fun X (hk : Keeps [] W2 X) => rright_is A n c d X (by omega) (hv.1.grow hk))
  have HUN := Lib.hid (fun X (hk : Keeps [] W2 X) => under_is r A n c d X h1 h2 (hv.grow hk) hn20)
  have HRR2 := Lib.hid (fun X C e' (hc : DnV X C (1 + n) e' (r :: d)) => rright_is C (1 + n) e' (r :: d) X (by omega) hc.1)
  have HDL : Hid ((dnCells d).length = n * 2) := by show _ = _; rw [dnCells_len, hlen]
  have HLN := Lib.hid hlen
  have hself : (d == d) = true := by simp
  have hself2 : ((r :: d) == (r :: d)) = true := by simp
  have HS1 := Lib.hid (fun X (hk : Keeps [] W2 X) C e' (hc : DnV X C n e' d) => rsame6_is C A n n e' c d d X hc.1 (hv.1.grow hk) (by omega))
  have HS2 := Lib.hid (fun X C D e' e2 (hc : DnV X C (n + 1) e' (r :: d)) (hd : DnV X D (1 + n) e2 (r :: d)) => rsame6_is C D (n + 1) (1 + n) e' e2 (r :: d) (r :: d) X hc.1 hd.1 (by omega))
  rw [hself] at HS1
  rw [hself2] at HS2
  have hbb : nameOk (r :: d) = true → belowD (r :: d) d = true := fun hok => below_drop (d := r :: d) (j := 0) (k := 1) hok (by omega) (by simp)
  have hno : nameOk d = false → nameOk (r :: d) = false := fun hf => by
    cases hx : nameOk (r :: d) with
    | false => rfl
    | true => have := nameOk_drop 1 hx; rw [List.drop_succ_cons, List.drop_zero, hf] at this; cases this
  have HB2 := Lib.hid (fun X (hk : Keeps [] W2 X) C e' (hc : DnV X C (n + 1) e' (r :: d)) => below6_is C A (n + 1) n e' c (r :: d) d X hc (hv.grow hk))
  have HU2 : Hid (nameOk (r :: d) = true → ∀ X C e', DnV X C (n + 1) e' (r :: d) → Calls Tryd.prog 24 #[.slice C (n + 1) e'] X fun e w' => ∃ C2 e2, e = .returned (.tuple #[.slice C2 n e2, .bool true]) ∧ DnV w' C2 n e2 d ∧ Keeps [] X w') := fun hok X C e' hc => up_yes C (n + 1) e' (r :: d) X hc (Nat.succ_pos n) hok
  clear hself hself2 h0 h1 h2 hla hlr hk2

  cases hd : nameOk d with
  | false =>
    have HUP := Lib.hid (up_no A n c d W2 hv (.inr hd))
    rw [hd] at HRR1
    have hok := hno hd
    clear hd
    rw [hok] at HRR2
    have HOK := Lib.hid hok
    clear HU2 HB2 HS2 HS1
    obtain ⟨s, v⟩ := r
    dsimp only at *
    unfold tv at f0 f1 HF HW1 HW2 HUN ⊢
    clear hnc hcm hlen hv hbb hno
    have HX0 : Hid (Keeps [] W2 W2) := Keeps.refl _ _
    clear hok
    go_enter Tryd.func6, Tryd.ntmps6
    go_wp2_with fail
    rw [HW1.out]
    refine HLA.out.mono ?_
    rintro e w0 ⟨rfl, rfl⟩
    go_wp2_with fail
    rw [HW2.out]
    refine HLR.out.mono ?_
    rintro e w0 ⟨rfl, rfl⟩
    go_wp2_with fail
    refine (HUP.out).mono ?_
    rintro e w1 ⟨rfl, hk⟩
    have HX1 : Hid (Keeps [] W2 w1) := HX0.out.trans' hk
    clear hk
    go_wp2_with fail
    refine (HRR1.out _ HX1.out).mono ?_
    rintro e w2 ⟨rfl, hk⟩
    have HX2 : Hid (Keeps [] W2 w2) := HX1.out.trans' hk
    clear hk
    obtain ⟨b0, b1⟩ := HF.out _ HX2.out
    go_wp2_with fail
    refine (HUN.out _ HX2.out).mono ?_
    rintro e w3 ⟨hu, _, hk⟩
    obtain rfl := hu HOK.out
    have HX3 : Hid (Keeps [] W2 w3) := HX2.out.trans' hk
    clear hu hk
    obtain ⟨g0, g1⟩ := HF.out _ HX3.out
    have HZ8 : Hid (Keeps [] w3 (w3.alloc (.cells #[.string ⟨s.toArray⟩, .string ⟨v.toArray⟩] 38))) := (Keeps.refl [] _).alloc _
    have HSR := Lib.hid ((HV.out.grow (HX3.out.trans' HZ8.out)).1.src)
    go_wp2_with (at_builtin; refine wpList_append_opt rfl (.tmp 71) (.tmp 72) 23 rfl w3.heap.size 38 iu _ 2 32 Tryd.underlying23 hiu hzu0 hzu1 hzu2 rfl (by decide) (.slice (some ⟨w3.heap.size, 0, none⟩) 1 1) 1 [.string ⟨s.toArray⟩, .string ⟨v.toArray⟩] rfl (own_lit6 w3 #[.string ⟨s.toArray⟩, .string ⟨v.toArray⟩] 38 2 1 rfl (by unfold maxLen; omega)) A n c (dnCells d) rfl HDL.out HSR.out (dnCells_one d) (by unfold maxLen; omega) (by omega) (by rw [size_alloc6]; omega) ?_; intro v9 x9 ho hg hs; obtain ⟨VB, vd, hv⟩ := own_slice ho; subst hv; have HK9 := Lib.hid (keeps_own8 (own_lit6 w3 #[.string ⟨s.toArray⟩, .string ⟨v.toArray⟩] 38 2 1 rfl (by unfold maxLen; omega)) HZ8.out hg); have HR9 := Lib.hid (DnV.of_own (d := (s, v) :: d) ho (by have := HLN.out; rw [List.length_cons]; omega) HPP.out (by omega)); clear ho hg hs)
    have HX4 : Hid (Keeps [] W2 x9) := HX3.out.trans' HK9.out
    refine (HRR2.out _ _ _ HR9.out).mono ?_
    rintro e w5 ⟨rfl, hk⟩
    have HX5 : Hid (Keeps [] W2 w5) := HX4.out.trans' hk
    clear hk
    go_wp2_with fail
    refine (HKN.out _ (HWW.out.trans' HX5.out)).mono ?_
    rintro e wl ⟨rfl, hk⟩
    have HL : Hid (Keeps [] w wl) := (HWW.out.trans' HX5.out).trans' hk
    clear hk
    go_wp2_with fail
    go_ret
    exact ⟨rfl, HL.out⟩
  | true =>
    rw [hd] at HRR1
    rcases Nat.eq_zero_or_pos n with hz | hz
    · subst hz
      have HUP := Lib.hid (up_no A 0 c d W2 hv (.inl rfl))
      clear hd
      cases hok : nameOk (r :: d) with
      | false =>
        rw [hok] at HRR2
        have HOK := Lib.hid hok
        clear HU2 HB2 HS2 HS1
        obtain ⟨s, v⟩ := r
        dsimp only at *
        unfold tv at f0 f1 HF HW1 HW2 HUN ⊢
        clear hnc hcm hlen hv hbb hno
        have HX0 : Hid (Keeps [] W2 W2) := Keeps.refl _ _
        clear hok
        go_enter Tryd.func6, Tryd.ntmps6
        go_wp2_with fail
        rw [HW1.out]
        refine HLA.out.mono ?_
        rintro e w0 ⟨rfl, rfl⟩
        go_wp2_with fail
        rw [HW2.out]
        refine HLR.out.mono ?_
        rintro e w0 ⟨rfl, rfl⟩
        go_wp2_with fail
        refine (HUP.out).mono ?_
        rintro e w1 ⟨rfl, hk⟩
        have HX1 : Hid (Keeps [] W2 w1) := HX0.out.trans' hk
        clear hk
        go_wp2_with fail
        refine (HRR1.out _ HX1.out).mono ?_
        rintro e w2 ⟨rfl, hk⟩
        have HX2 : Hid (Keeps [] W2 w2) := HX1.out.trans' hk
        clear hk
        obtain ⟨b0, b1⟩ := HF.out _ HX2.out
        go_wp2_with fail
        refine (HUN.out _ HX2.out).mono ?_
        rintro e w3 ⟨hu, _, hk⟩
        obtain rfl := hu HOK.out
        have HX3 : Hid (Keeps [] W2 w3) := HX2.out.trans' hk
        clear hu hk
        obtain ⟨g0, g1⟩ := HF.out _ HX3.out
        have HZ8 : Hid (Keeps [] w3 (w3.alloc (.cells #[.string ⟨s.toArray⟩, .string ⟨v.toArray⟩] 38))) := (Keeps.refl [] _).alloc _
        have HSR := Lib.hid ((HV.out.grow (HX3.out.trans' HZ8.out)).1.src)
        go_wp2_with (at_builtin; refine wpList_append_opt rfl (.tmp 71) (.tmp 72) 23 rfl w3.heap.size 38 iu _ 2 32 Tryd.underlying23 hiu hzu0 hzu1 hzu2 rfl (by decide) (.slice (some ⟨w3.heap.size, 0, none⟩) 1 1) 1 [.string ⟨s.toArray⟩, .string ⟨v.toArray⟩] rfl (own_lit6 w3 #[.string ⟨s.toArray⟩, .string ⟨v.toArray⟩] 38 2 1 rfl (by unfold maxLen; omega)) A 0 c (dnCells d) rfl HDL.out HSR.out (dnCells_one d) (by unfold maxLen; omega) (by omega) (by rw [size_alloc6]; omega) ?_; intro v9 x9 ho hg hs; obtain ⟨VB, vd, hv⟩ := own_slice ho; subst hv; have HK9 := Lib.hid (keeps_own8 (own_lit6 w3 #[.string ⟨s.toArray⟩, .string ⟨v.toArray⟩] 38 2 1 rfl (by unfold maxLen; omega)) HZ8.out hg); have HR9 := Lib.hid (DnV.of_own (d := (s, v) :: d) ho (by have := HLN.out; rw [List.length_cons]; omega) HPP.out (by omega)); clear ho hg hs)
        have HX4 : Hid (Keeps [] W2 x9) := HX3.out.trans' HK9.out
        refine (HRR2.out _ _ _ HR9.out).mono ?_
        rintro e w5 ⟨rfl, hk⟩
        have HX5 : Hid (Keeps [] W2 w5) := HX4.out.trans' hk
        clear hk
        go_wp2_with fail
        refine (HKN.out _ (HWW.out.trans' HX5.out)).mono ?_
        rintro e wl ⟨rfl, hk⟩
        have HL : Hid (Keeps [] w wl) := (HWW.out.trans' HX5.out).trans' hk
        clear hk
        go_wp2_with fail
        go_ret
        exact ⟨rfl, HL.out⟩
      | true =>
        rw [hok] at HRR2
        have HOK := Lib.hid hok
        rw [hbb hok] at HB2
        replace HU2 := Lib.hid (HU2.out hok)
        obtain ⟨s, v⟩ := r
        dsimp only at *
        unfold tv at f0 f1 HF HW1 HW2 HUN ⊢
        clear hnc hcm hlen hv hbb hno
        have HX0 : Hid (Keeps [] W2 W2) := Keeps.refl _ _
        clear hok
        go_enter Tryd.func6, Tryd.ntmps6
        go_wp2_with fail
        rw [HW1.out]
        refine HLA.out.mono ?_
        rintro e w0 ⟨rfl, rfl⟩
        go_wp2_with fail
        rw [HW2.out]
        refine HLR.out.mono ?_
        rintro e w0 ⟨rfl, rfl⟩
        go_wp2_with fail
        refine (HUP.out).mono ?_
        rintro e w1 ⟨rfl, hk⟩
        have HX1 : Hid (Keeps [] W2 w1) := HX0.out.trans' hk
        clear hk
        go_wp2_with fail
        refine (HRR1.out _ HX1.out).mono ?_
        rintro e w2 ⟨rfl, hk⟩
        have HX2 : Hid (Keeps [] W2 w2) := HX1.out.trans' hk
        clear hk
        obtain ⟨b0, b1⟩ := HF.out _ HX2.out
        go_wp2_with fail
        refine (HUN.out _ HX2.out).mono ?_
        rintro e w3 ⟨_, hu, hk⟩
        obtain ⟨C, e', rfl, hc⟩ := hu HOK.out
        have HC3 := Lib.hid hc
        have HX3 : Hid (Keeps [] W2 w3) := HX2.out.trans' hk
        clear hc
        clear hu hk
        obtain ⟨g0, g1⟩ := HF.out _ HX3.out
        have HZ8 : Hid (Keeps [] w3 (w3.alloc (.cells #[.string ⟨s.toArray⟩, .string ⟨v.toArray⟩] 38))) := (Keeps.refl [] _).alloc _
        have HSR := Lib.hid ((HV.out.grow (HX3.out.trans' HZ8.out)).1.src)
        go_wp2_with (at_builtin; refine wpList_append_opt rfl (.tmp 71) (.tmp 72) 23 rfl w3.heap.size 38 iu _ 2 32 Tryd.underlying23 hiu hzu0 hzu1 hzu2 rfl (by decide) (.slice (some ⟨w3.heap.size, 0, none⟩) 1 1) 1 [.string ⟨s.toArray⟩, .string ⟨v.toArray⟩] rfl (own_lit6 w3 #[.string ⟨s.toArray⟩, .string ⟨v.toArray⟩] 38 2 1 rfl (by unfold maxLen; omega)) A 0 c (dnCells d) rfl HDL.out HSR.out (dnCells_one d) (by unfold maxLen; omega) (by omega) (by rw [size_alloc6]; omega) ?_; intro v9 x9 ho hg hs; obtain ⟨VB, vd, hv⟩ := own_slice ho; subst hv; have HK9 := Lib.hid (keeps_own8 (own_lit6 w3 #[.string ⟨s.toArray⟩, .string ⟨v.toArray⟩] 38 2 1 rfl (by unfold maxLen; omega)) HZ8.out hg); have HR9 := Lib.hid (DnV.of_own (d := (s, v) :: d) ho (by have := HLN.out; rw [List.length_cons]; omega) HPP.out (by omega)); clear ho hg hs)
        have HX4 : Hid (Keeps [] W2 x9) := HX3.out.trans' HK9.out
        have HC4 := Lib.hid (HC3.out.grow HK9.out)
        refine (HRR2.out _ _ _ HR9.out).mono ?_
        rintro e w5 ⟨rfl, hk⟩
        have HX5 : Hid (Keeps [] W2 w5) := HX4.out.trans' hk
        have HR5 := Lib.hid (HR9.out.grow hk)
        have HC5 := Lib.hid (HC4.out.grow hk)
        clear hk
        go_wp2_with fail
        refine (HU2.out _ _ _ HC5.out).mono ?_
        rintro e w6 ⟨E, e5, rfl, hc, hk⟩
        have HX6 : Hid (Keeps [] W2 w6) := HX5.out.trans' hk
        have HE6 := Lib.hid hc
        have HR6 := Lib.hid (HR5.out.grow hk)
        have HC6 := Lib.hid (HC5.out.grow hk)
        clear hk hc
        go_wp2_with fail
        refine (HS2.out _ _ _ _ _ HC6.out HR6.out).mono ?_
        rintro e w7 ⟨rfl, hk⟩
        have HX7 : Hid (Keeps [] W2 w7) := HX6.out.trans' hk
        have HE7 := Lib.hid (HE6.out.grow hk)
        have HC7 := Lib.hid (HC6.out.grow hk)
        clear hk
        go_wp2_with fail
        refine (HS1.out _ HX7.out _ _ HE7.out).mono ?_
        rintro e w8 ⟨rfl, hk⟩
        have HX8 : Hid (Keeps [] W2 w8) := HX7.out.trans' hk
        have HC8 := Lib.hid (HC7.out.grow hk)
        clear hk
        go_wp2_with fail
        refine (HB2.out _ HX8.out _ _ HC8.out).mono ?_
        rintro e w9 ⟨rfl, hk⟩
        have HX9 : Hid (Keeps [] W2 w9) := HX8.out.trans' hk
        clear hk
        go_wp2_with fail
        refine (HKN.out _ (HWW.out.trans' HX9.out)).mono ?_
        rintro e wl ⟨rfl, hk⟩
        have HL : Hid (Keeps [] w wl) := (HWW.out.trans' HX9.out).trans' hk
        clear hk
        go_wp2_with fail
        go_ret
        exact ⟨rfl, HL.out⟩
    · have HUP := Lib.hid (up_yes A n c d W2 hv hz hd)
      obtain ⟨B, eb, hsl, hdn⟩ := slice_from6 A n c 1 d hnc hcm (by omega) (by omega)
      have hb1 : belowD d (d.drop 1) = true := below_drop (j := 0) hd (by omega) (by omega)
      have hsd : (d.drop 1 == d.drop 1) = true := by simp
      have HSD := Lib.hid (fun X (hk : Keeps [] W2 X) C e' (hc : DnV X C (n - 1) e' (d.drop 1)) => rsame6_is C B (n - 1) (n - 1) e' eb (d.drop 1) (d.drop 1) X hc.1 (hdn X (hv.1.grow hk)).1 (by omega))
      have HBD := Lib.hid (fun X (hk : Keeps [] W2 X) C e' (hc : DnV X C (n - 1) e' (d.drop 1)) => below6_is A C n (n - 1) c e' d (d.drop 1) X (hv.grow hk) hc)
      rw [hsd] at HSD
      rw [hb1] at HBD
      generalize d.drop 1 = d1 at *
      generalize n - 1 = m at *
      rw [show ((1 : Nat) : Int) = 1 from rfl] at hsl
      have hpos : (0 : Int) < (n : Int) := by omega
      have hposb : decide ((0 : Int) < (n : Int)) = true := by simp; omega
      clear hd hb1 hsd hdn
      cases hok : nameOk (r :: d) with
      | false =>
        rw [hok] at HRR2
        have HOK := Lib.hid hok
        clear HU2 HB2 HS2 HS1
        obtain ⟨s, v⟩ := r
        dsimp only at *
        unfold tv at f0 f1 HF HW1 HW2 HUN ⊢
        clear hnc hcm hlen hv hbb hno
        have HX0 : Hid (Keeps [] W2 W2) := Keeps.refl _ _
        clear hok
        go_enter Tryd.func6, Tryd.ntmps6
        go_wp2_with fail
        rw [HW1.out]
        refine HLA.out.mono ?_
        rintro e w0 ⟨rfl, rfl⟩
        go_wp2_with fail
        rw [HW2.out]
        refine HLR.out.mono ?_
        rintro e w0 ⟨rfl, rfl⟩
        go_wp2_with fail
        refine HUP.out.mono ?_
        rintro e w1 ⟨U, eu, rfl, hu, hk⟩
        have HX1 : Hid (Keeps [] W2 w1) := HX0.out.trans' hk
        have HU1 := Lib.hid hu
        clear hu hk
        go_wp2_with fail
        refine (HRR1.out _ HX1.out).mono ?_
        rintro e w2 ⟨rfl, hk⟩
        have HX2 : Hid (Keeps [] W2 w2) := HX1.out.trans' hk
        have HUU2 := Lib.hid (HU1.out.grow hk)
        clear hk
        go_wp2_with fail
        refine (HSD.out _ HX2.out _ _ HUU2.out).mono ?_
        rintro e w3 ⟨rfl, hk⟩
        have HX3 : Hid (Keeps [] W2 w3) := HX2.out.trans' hk
        have HU3 := Lib.hid (HUU2.out.grow hk)
        clear hk
        go_wp2_with fail
        refine (HBD.out _ HX3.out _ _ HU3.out).mono ?_
        rintro e w4 ⟨rfl, hk⟩
        have HX4 : Hid (Keeps [] W2 w4) := HX3.out.trans' hk
        clear hk
        obtain ⟨b0, b1⟩ := HF.out _ HX4.out
        go_wp2_with fail
        refine (HUN.out _ HX4.out).mono ?_
        rintro e w5 ⟨hu, _, hk⟩
        obtain rfl := hu HOK.out
        have HX5 : Hid (Keeps [] W2 w5) := HX4.out.trans' hk
        clear hu hk
        obtain ⟨g0, g1⟩ := HF.out _ HX5.out
        have HZ8 : Hid (Keeps [] w5 (w5.alloc (.cells #[.string ⟨s.toArray⟩, .string ⟨v.toArray⟩] 38))) := (Keeps.refl [] _).alloc _
        have HSR := Lib.hid ((HV.out.grow (HX5.out.trans' HZ8.out)).1.src)
        go_wp2_with (at_builtin; refine wpList_append_opt rfl (.tmp 71) (.tmp 72) 23 rfl w5.heap.size 38 iu _ 2 32 Tryd.underlying23 hiu hzu0 hzu1 hzu2 rfl (by decide) (.slice (some ⟨w5.heap.size, 0, none⟩) 1 1) 1 [.string ⟨s.toArray⟩, .string ⟨v.toArray⟩] rfl (own_lit6 w5 #[.string ⟨s.toArray⟩, .string ⟨v.toArray⟩] 38 2 1 rfl (by unfold maxLen; omega)) A n c (dnCells d) rfl HDL.out HSR.out (dnCells_one d) (by unfold maxLen; omega) (by omega) (by rw [size_alloc6]; omega) ?_; intro v9 x9 ho hg hs; obtain ⟨VB, vd, hv⟩ := own_slice ho; subst hv; have HK9 := Lib.hid (keeps_own8 (own_lit6 w5 #[.string ⟨s.toArray⟩, .string ⟨v.toArray⟩] 38 2 1 rfl (by unfold maxLen; omega)) HZ8.out hg); have HR9 := Lib.hid (DnV.of_own (d := (s, v) :: d) ho (by have := HLN.out; rw [List.length_cons]; omega) HPP.out (by omega)); clear ho hg hs)
        have HX6 : Hid (Keeps [] W2 x9) := HX5.out.trans' HK9.out
        refine (HRR2.out _ _ _ HR9.out).mono ?_
        rintro e w7 ⟨rfl, hk⟩
        have HX7 : Hid (Keeps [] W2 w7) := HX6.out.trans' hk
        clear hk
        go_wp2_with fail
        refine (HKN.out _ (HWW.out.trans' HX7.out)).mono ?_
        rintro e wl ⟨rfl, hk⟩
        have HL : Hid (Keeps [] w wl) := (HWW.out.trans' HX7.out).trans' hk
        clear hk
        go_wp2_with fail
        go_ret
        exact ⟨rfl, HL.out⟩
      | true =>
        rw [hok] at HRR2
        have HOK := Lib.hid hok
        rw [hbb hok] at HB2
        replace HU2 := Lib.hid (HU2.out hok)
        obtain ⟨s, v⟩ := r
        dsimp only at *
        unfold tv at f0 f1 HF HW1 HW2 HUN ⊢
        clear hnc hcm hlen hv hbb hno
        have HX0 : Hid (Keeps [] W2 W2) := Keeps.refl _ _
        clear hok
        go_enter Tryd.func6, Tryd.ntmps6
        go_wp2_with fail
        rw [HW1.out]
        refine HLA.out.mono ?_
        rintro e w0 ⟨rfl, rfl⟩
        go_wp2_with fail
        rw [HW2.out]
        refine HLR.out.mono ?_
        rintro e w0 ⟨rfl, rfl⟩
        go_wp2_with fail
        refine HUP.out.mono ?_
        rintro e w1 ⟨U, eu, rfl, hu, hk⟩
        have HX1 : Hid (Keeps [] W2 w1) := HX0.out.trans' hk
        have HU1 := Lib.hid hu
        clear hu hk
        go_wp2_with fail
        refine (HRR1.out _ HX1.out).mono ?_
        rintro e w2 ⟨rfl, hk⟩
        have HX2 : Hid (Keeps [] W2 w2) := HX1.out.trans' hk
        have HUU2 := Lib.hid (HU1.out.grow hk)
        clear hk
        go_wp2_with fail
        refine (HSD.out _ HX2.out _ _ HUU2.out).mono ?_
        rintro e w3 ⟨rfl, hk⟩
        have HX3 : Hid (Keeps [] W2 w3) := HX2.out.trans' hk
        have HU3 := Lib.hid (HUU2.out.grow hk)
        clear hk
        go_wp2_with fail
        refine (HBD.out _ HX3.out _ _ HU3.out).mono ?_
        rintro e w4 ⟨rfl, hk⟩
        have HX4 : Hid (Keeps [] W2 w4) := HX3.out.trans' hk
        clear hk
        obtain ⟨b0, b1⟩ := HF.out _ HX4.out
        go_wp2_with fail
        refine (HUN.out _ HX4.out).mono ?_
        rintro e w5 ⟨_, hu, hk⟩
        obtain ⟨C, e', rfl, hc⟩ := hu HOK.out
        have HC5 := Lib.hid hc
        have HX5 : Hid (Keeps [] W2 w5) := HX4.out.trans' hk
        clear hc
        clear hu hk
        obtain ⟨g0, g1⟩ := HF.out _ HX5.out
        have HZ8 : Hid (Keeps [] w5 (w5.alloc (.cells #[.string ⟨s.toArray⟩, .string ⟨v.toArray⟩] 38))) := (Keeps.refl [] _).alloc _
        have HSR := Lib.hid ((HV.out.grow (HX5.out.trans' HZ8.out)).1.src)
        go_wp2_with (at_builtin; refine wpList_append_opt rfl (.tmp 71) (.tmp 72) 23 rfl w5.heap.size 38 iu _ 2 32 Tryd.underlying23 hiu hzu0 hzu1 hzu2 rfl (by decide) (.slice (some ⟨w5.heap.size, 0, none⟩) 1 1) 1 [.string ⟨s.toArray⟩, .string ⟨v.toArray⟩] rfl (own_lit6 w5 #[.string ⟨s.toArray⟩, .string ⟨v.toArray⟩] 38 2 1 rfl (by unfold maxLen; omega)) A n c (dnCells d) rfl HDL.out HSR.out (dnCells_one d) (by unfold maxLen; omega) (by omega) (by rw [size_alloc6]; omega) ?_; intro v9 x9 ho hg hs; obtain ⟨VB, vd, hv⟩ := own_slice ho; subst hv; have HK9 := Lib.hid (keeps_own8 (own_lit6 w5 #[.string ⟨s.toArray⟩, .string ⟨v.toArray⟩] 38 2 1 rfl (by unfold maxLen; omega)) HZ8.out hg); have HR9 := Lib.hid (DnV.of_own (d := (s, v) :: d) ho (by have := HLN.out; rw [List.length_cons]; omega) HPP.out (by omega)); clear ho hg hs)
        have HX6 : Hid (Keeps [] W2 x9) := HX5.out.trans' HK9.out
        have HC6 := Lib.hid (HC5.out.grow HK9.out)
        refine (HRR2.out _ _ _ HR9.out).mono ?_
        rintro e w7 ⟨rfl, hk⟩
        have HX7 : Hid (Keeps [] W2 w7) := HX6.out.trans' hk
        have HR7 := Lib.hid (HR9.out.grow hk)
        have HC7 := Lib.hid (HC6.out.grow hk)
        clear hk
        go_wp2_with fail
        refine (HU2.out _ _ _ HC7.out).mono ?_
        rintro e w8 ⟨E, e5, rfl, hc, hk⟩
        have HX8 : Hid (Keeps [] W2 w8) := HX7.out.trans' hk
        have HE8 := Lib.hid hc
        have HR8 := Lib.hid (HR7.out.grow hk)
        have HC8 := Lib.hid (HC7.out.grow hk)
        clear hk hc
        go_wp2_with fail
        refine (HS2.out _ _ _ _ _ HC8.out HR8.out).mono ?_
        rintro e w9 ⟨rfl, hk⟩
        have HX9 : Hid (Keeps [] W2 w9) := HX8.out.trans' hk
        have HE9 := Lib.hid (HE8.out.grow hk)
        have HC9 := Lib.hid (HC8.out.grow hk)
        clear hk
        go_wp2_with fail
        refine (HS1.out _ HX9.out _ _ HE9.out).mono ?_
        rintro e w10 ⟨rfl, hk⟩
        have HX10 : Hid (Keeps [] W2 w10) := HX9.out.trans' hk
        have HC10 := Lib.hid (HC9.out.grow hk)
        clear hk
        go_wp2_with fail
        refine (HB2.out _ HX10.out _ _ HC10.out).mono ?_
        rintro e w11 ⟨rfl, hk⟩
        have HX11 : Hid (Keeps [] W2 w11) := HX10.out.trans' hk
        clear hk
        go_wp2_with fail
        refine (HKN.out _ (HWW.out.trans' HX11.out)).mono ?_
        rintro e wl ⟨rfl, hk⟩
        have HL : Hid (Keeps [] w wl) := (HWW.out.trans' HX11.out).trans' hk
        clear hk
        go_wp2_with fail
        go_ret
        exact ⟨rfl, HL.out⟩

theorem dnups_any (r : Part6) (A : Option Addr) (n c : Nat) (d : List Part6) (w : World) (h1 : r.1.length ≤ 9223372036854775807) (h2 : r.2.length ≤ 9223372036854775807) (h0 : DnIn w A n d) (hnc : n ≤ c) (hcm : c ≤ 9223372036854775807) (hs : SynAt w) :
    Calls Tryd.prog 6 #[.agg #[tv r.1, tv r.2], .slice A n c] w fun e w' => e = .returned (.bool true) ∧ Below w.heap.size w w' :=
  (dnups_keeps r A n c d w h1 h2 h0 hnc hcm hs).mono fun e w' ⟨he, hk⟩ => ⟨he, hk.below (Nat.le_refl _) (by simp)⟩

end Go.Proofs.YtjnibkgbcgpigaaDoor
