/- Texts of one proof, laid together: U17 U19 U20. -/
import Derived.Test.YthgpjlmdllihmaaGreatM18
import Derived.Test.YthgpjlmdllihmaaGreatM19
/- areaAt, where a title lies. -/
namespace Go.Proofs.YthgpjlmdllihmaaGreat
open Go.RowKit Go.Shelf Go.Maps
set_option linter.unusedVariables false
set_option linter.unusedSimpArgs false
set_option maxRecDepth 100000

set_option maxHeartbeats 2000000 in
theorem areaat_title (k : Dk) (at_ : Nat) (w : World) (hd : DiskAt w k) (hat : at_ + k.S.length / 2 ≤ k.S.length) (ht : isTitle (arX k.S at_) = true) :
    Calls Tryz.prog 40 #[.pointer (some ⟨k.p, 0, none⟩), .int .i64 (at_ : Int)] w fun e w' => ∃ m, e = .returned (.tuple #[.agg #[.int .i64 (at_ : Int), .int .u32 (arT (k.S.length / 2) (arX k.S at_) : Nat), .map m], .bool (arIs (k.S.length / 2) (arX k.S at_))]) ∧ TabV w' m (arTab (k.S.length / 2) (arX k.S at_)) ∧ (∀ b, m = some b → w.heap.size ≤ b) ∧ Keeps [] w w' := by
  have hbig := hd.big
  have hk0 : Keeps [] w (w.alloc (.cells #[.int .i64 0, .int .u32 0, .map none] 62)) := (Keeps.refl [] w).alloc _
  have b0 := heap_alloc_new w (.cells #[.int .i64 0, .int .u32 0, .map none] 62)
  have HA := Lib.hid (fun w1 (hk : Keeps [] w w1) => areasize_is k w1 (hd.grow hk))
  have HR := Lib.hid (fun w1 (hk : Keeps [] w w1) => read_dat k _ at_ (k.S.length / 2) (arX k.S at_) w1 (hd.grow hk) rfl hat rfl)
  have HRM := Lib.hid (fun w1 (hk : Keeps [] w w1) m T h hT => hasroom_is m T k w1 h hT (hd.grow hk))
  have hxl : (arX k.S at_).length = k.S.length / 2 := by unfold arX; rw [List.length_take, List.length_drop]; omega
  generalize arX k.S at_ = xs at *
  generalize k.S.length / 2 = hf at *
  obtain ⟨hfr, hN20, h20⟩ := title_framed ht
  have h8 : (fstR xs).length = 8 := by simpa [isTitle] using ht
  have hmany : manyP xs < 4294967296 := num4_lt _
  have HX := Lib.hid hxl
  have HD := Lib.hid hd
  have HB0 := Lib.hid b0
  have HK0 := Lib.hid hk0
  have h20f : 20 ≤ hf := by omega
  have HT := Lib.hid ht
  have HN20 := Lib.hid hN20
  clear hN20
  have em : num4 ((fstR xs).drop 4) = manyP xs := rfl
  have et : num4 (fstR xs) = turnP xs := rfl
  clear b0 hk0 ht hd hxl h20
  go_enter Tryz.func40, Tryz.ntmps40
  go_wp2
  refine wp_scope_once 0 rfl ?_
  go_wp2_with (first
    | (go_at_call 41; refine (HA.out _ HK0.out).mono ?_; rintro e w' ⟨rfl, rfl⟩)
    | (go_at_call 54; refine (HR.out _ HK0.out).mono ?_; rintro e w2 ⟨A, c, rfl, hb2, hw2⟩; have HB2 := Lib.hid hb2; have HK2 := Lib.hid (HK0.out.trans' (Keeps.of_below hw2)); have HS2 := Lib.hid (blk_keep HB0.out (Keeps.of_below hw2 (bs := [])) (by simp)); clear hb2 hw2)
    | (go_at_call 55; refine (first_is A hf c xs w2 HX.out HB2.out).mono ?_; rintro e w3 ⟨B, d, rfl, hb3, hn3, hk3⟩; have HB3 := Lib.hid hb3; have HX3 := Lib.hid (HB2.out.grow hk3); have HK3 := Lib.hid (HK2.out.trans' hk3); have HS3 := Lib.hid (blk_keep HS2.out hk3 (by simp)); clear hb3 hn3 hk3)
    | (go_at_call 56; refine (title_any B 8 d (fstR xs) w3 h8 (by have h := HB3.out; rw [h8] at h; exact h) rfl).mono ?_; rintro e w4 ⟨rfl, hk4⟩; have HX4 := Lib.hid (HX3.out.grow hk4); have HK4 := Lib.hid (HK3.out.trans' hk4); have HS4 := Lib.hid (blk_keep HS3.out hk4 (by simp)); clear hk4))
  obtain ⟨X, hX⟩ : ∃ X, w4.alloc (.cells #[.int .u32 (turnP xs : Nat), .int .u32 (manyP xs : Nat)] 113) = X := ⟨_, rfl⟩
  have hKX : Keeps [] w4 X := by rw [← hX]; exact (Keeps.refl [] w4).alloc _
  have bX : X.heap[w4.heap.size]? = some (.cells #[.int .u32 (turnP xs : Nat), .int .u32 (manyP xs : Nat)] 113 (0, 0)) := by rw [← hX]; exact heap_alloc_new w4 _
  have HXX := Lib.hid (HX4.out.grow hKX)
  have HKX := Lib.hid (HK4.out.trans' hKX)
  have HSX := Lib.hid (blk_keep HS4.out hKX (by simp))
  have HBX := Lib.hid bX
  rw [hX]
  have t0 := cell_of_blk bX 0
  have t1 := cell_of_blk bX 1
  simp only [List.getElem?_toArray, List.getElem?_cons_zero, List.getElem?_cons_succ] at t0 t1
  have hnc := (cap_of_bytes HXX.out).1
  have hcm := (cap_of_bytes HXX.out).2.1
  obtain ⟨B5, d5, hs5, hbs5⟩ := slice_from A hf c (fstN xs) xs HX.out hnc hcm (by rw [HN20.out]; exact h20f) (fun h => by
    obtain ⟨b, o, h9, _⟩ := bytes_addr HXX.out (by first | exact h | (rw [HX.out]; exact h))
    exact ⟨b, o, h9⟩)
  have HRO := Lib.hid (rowsin_is B5 (hf - fstN xs) d5 (manyP xs) (xs.drop 20) X.drew (by rw [List.length_drop, HX.out, HN20.out]) (by have h := hbs5 _ (HXX.out.grow (Keeps.refl [] X).drew); rw [HN20.out] at h ⊢; exact h) (by omega) hmany)
  clear hbs5 hX hKX bX em et
  have t1d : X.drew.cell? ⟨w4.heap.size, 1, none⟩ = some (.int .u32 (manyP xs : Nat)) := t1
  have hfl : fstN xs ≤ hf := by rw [HN20.out]; exact h20f
  generalize fstN xs = fn at *
  have KF : Hid (∀ Y, Keeps [] X.drew Y → Keeps [] w Y ∧ Y.heap[w.heap.size]? = some (.cells #[.int .i64 0, .int .u32 0, .map none] 62 (0, 0)) ∧ Y.cell? ⟨w4.heap.size, 0, none⟩ = some (.int .u32 (turnP xs : Nat)) ∧ Y.cell? ⟨w4.heap.size, 1, none⟩ = some (.int .u32 (manyP xs : Nat))) := fun Y hY =>
    ⟨HKX.out.drew.trans' hY, blk_keep (show X.drew.heap[w.heap.size]? = _ from HSX.out) hY (by simp), (hY.cell (p := ⟨w4.heap.size, 0, none⟩) (lt_of_cell t0) (by simp)).trans t0, (hY.cell (p := ⟨w4.heap.size, 1, none⟩) (lt_of_cell t1) (by simp)).trans t1⟩
  cases hok : rowsOk (manyP xs) (xs.drop 20)
  · rw [hok] at HRO
    have e1 : Hid (areaP hf xs = none) := by show _ = _; unfold areaP; rw [HT.out, hok]; rfl
    clear t0
    go_wp2_with fail
    go_region_held (fun w' => w'.cell? ⟨w4.heap.size, 1, none⟩ = some (.int .u32 (manyP xs : Nat))) (first | exact t1d | exact ct6) (first | (go_at_call 57; refine HRO.out.mono ?_; rintro e w6 ⟨m, T, rfl, hm6, hT6, hn6, hb6⟩; have hk6 := (Keeps.of_below (bs := []) hb6); have ct6 := (KF.out _ hk6).2.2.2; have HK6 := Lib.hid (KF.out _ hk6); clear hm6 hT6 hn6 hb6 hk6))
    all_goals
      obtain ⟨q1, q2, q3, q4⟩ := HK6.out
      have HF := Lib.hid (area_store q2 q1 (.int .i64 (at_ : Int)) (.int .u32 0) (.map none))
      obtain ⟨⟨c0, c1, c2⟩, f0, f1, f2⟩ := three_facts q2
      clear q1 q2
      go_wp2_with fail
      go_step3
      refine ⟨rfl, ?_⟩
      go_wp2
      rw [Exit.noGoto_ret]
      obtain ⟨h1, h2⟩ := HF.out
      exact bodyPost_ret (res_cell_tmp rfl _ _ rfl h1) rfl ⟨none, by simp only [arT, arIs, e1.out]; rfl, by simp only [arTab, e1.out]; rfl, fun b hb => by (cases hb), h2⟩
  · obtain ⟨S, hS⟩ : ∃ S, rowsP (manyP xs) (xs.drop 20) = some S := by
      unfold rowsOk at hok
      cases hh : rowsP (manyP xs) (xs.drop 20) with
      | none => rw [hh] at hok; cases hok
      | some S => exact ⟨S, rfl⟩
    have hwS : tweight S ≤ 1000000000 := by
      have h1 := rowsP_weight hS
      have h2 := HX.out
      rw [List.length_drop] at h1
      omega
    rw [hok] at HRO
    have HSS := Lib.hid hS
    have earea : Hid (areaP hf xs = if tweight S + 64 ≤ hf then some (turnP xs, S) else none) := by
      show _ = _
      unfold areaP
      rw [HT.out, hok, hS]
      rfl
    clear hS hok
    have HRM2 : Hid (∀ (w1 : World) (m : Option Nat), Keeps [] w w1 → TabV w1 m S → Calls Tryz.prog 26 #[.map m, .pointer (some ⟨k.p, 0, none⟩)] w1 fun e w' => e = .returned (.bool (decide (tweight S + 64 ≤ hf))) ∧ Keeps [] w1 w') := fun w1 m hk hv => HRM.out w1 hk m S hv hwS
    clear hwS
    by_cases hroom : tweight S + 64 ≤ hf
    · have e1 : Hid (areaP hf xs = some (turnP xs, S)) := by show _ = _; rw [earea.out, if_pos hroom]
      have hdr : decide (tweight S + 64 ≤ hf) = true := decide_eq_true hroom
      rw [hdr] at HRM2
      go_wp2_with fail
      go_region_held (fun w' => w'.cell? ⟨w4.heap.size, 1, none⟩ = some (.int .u32 (manyP xs : Nat))) (first | exact t1d | exact ct6) (first | (go_at_call 57; refine HRO.out.mono ?_; rintro e w6 ⟨m, T, rfl, hm6, hT6, hn6, hb6⟩; have hTS := hT6 S HSS.out; subst hTS; have hk6 := (Keeps.of_below (bs := []) hb6); have ct6 := (KF.out _ hk6).2.2.2; have HK6 := Lib.hid hk6; have HV6 := Lib.hid hm6; have HN6 := Lib.hid hn6; clear hm6 hT6 hn6 hb6 hk6))
      go_wp2_with (go_at_call 26; refine (HRM2.out _ _ (KF.out _ HK6.out).1 HV6.out).mono ?_; rintro e w7 ⟨rfl, hk7⟩; have HK7 := Lib.hid (HK6.out.trans' hk7); have HV7 := Lib.hid (HV6.out.grow hk7); clear hk7; have q3 := (KF.out _ HK7.out).2.2.1; obtain ⟨⟨c0, c1, c2⟩, f0, f1, f2⟩ := three_facts (KF.out _ HK7.out).2.1; have HF := Lib.hid (area_store (KF.out _ HK7.out).2.1 (KF.out _ HK7.out).1 (.int .i64 (at_ : Int)) (.int .u32 (turnP xs : Nat)) (.map m)))
      simp only [Exit.jump]
      obtain ⟨h1, h2⟩ := HF.out
      have k7 : Keeps [w.heap.size] w7 (((w7.setCell ⟨w.heap.size, 0, none⟩ (.int .i64 (at_ : Int))).setCell ⟨w.heap.size, 1, none⟩ (.int .u32 (turnP xs : Nat))).setCell ⟨w.heap.size, 2, none⟩ (.map m)) := (((Keeps.refl _ w7).setCell (.inl (by simp)) _).setCell (.inl (by simp)) _).setCell (.inl (by simp)) _
      have hzX := HKX.out.size
      have hz0 : w.heap.size < X.heap.size := lt_of_heap HSX.out
      refine bodyPost_ret (res_cell_tmp rfl _ _ rfl h1) rfl ⟨m, by simp only [arT, arIs, e1.out]; rfl, ?_, fun b hb => Nat.le_trans (by have : X.drew.heap.size = X.heap.size := rfl; omega) (HN6.out b hb), h2⟩
      have hv := HV7.out.keep k7 (fun b hb hm => by have h9 := HN6.out b hb; have : X.drew.heap.size = X.heap.size := rfl; simp at hm; omega)
      simp only [arTab, e1.out]
      exact hv
    · have e1 : Hid (areaP hf xs = none) := by show _ = _; rw [earea.out, if_neg hroom]
      have hdr : decide (tweight S + 64 ≤ hf) = false := decide_eq_false hroom
      rw [hdr] at HRM2
      go_wp2_with fail
      go_region_held (fun w' => w'.cell? ⟨w4.heap.size, 1, none⟩ = some (.int .u32 (manyP xs : Nat))) (first | exact t1d | exact ct6) (first | (go_at_call 57; refine HRO.out.mono ?_; rintro e w6 ⟨m, T, rfl, hm6, hT6, hn6, hb6⟩; have hTS := hT6 S HSS.out; subst hTS; have hk6 := (Keeps.of_below (bs := []) hb6); have ct6 := (KF.out _ hk6).2.2.2; have HK6 := Lib.hid hk6; have HV6 := Lib.hid hm6; have HN6 := Lib.hid hn6; clear hm6 hT6 hn6 hb6 hk6))
      go_wp2_with (go_at_call 26; refine (HRM2.out _ _ (KF.out _ HK6.out).1 HV6.out).mono ?_; rintro e w7 ⟨rfl, hk7⟩; have HK7 := Lib.hid (HK6.out.trans' hk7); have HV7 := Lib.hid (HV6.out.grow hk7); clear hk7)
      obtain ⟨q1, q2, q3, q4⟩ := KF.out _ HK7.out
      have HF := Lib.hid (area_store q2 q1 (.int .i64 (at_ : Int)) (.int .u32 0) (.map none))
      obtain ⟨⟨c0, c1, c2⟩, f0, f1, f2⟩ := three_facts q2
      clear q1 q2
      go_wp2_with fail
      go_step3
      refine ⟨rfl, ?_⟩
      go_wp2
      rw [Exit.noGoto_ret]
      obtain ⟨h1, h2⟩ := HF.out
      exact bodyPost_ret (res_cell_tmp rfl _ _ rfl h1) rfl ⟨none, by simp only [arT, arIs, e1.out]; rfl, by simp only [arTab, e1.out]; rfl, fun b hb => by (cases hb), h2⟩

end Go.Proofs.YthgpjlmdllihmaaGreat
/- latest and Open. -/
namespace Go.Proofs.YthgpjlmdllihmaaGreat
open Go.RowKit Go.Shelf Go.Maps
set_option linter.unusedVariables false
set_option linter.unusedSimpArgs false
set_option maxRecDepth 100000

theorem areaat_is (k : Dk) (at_ : Nat) (w : World) (hd : DiskAt w k) (hat : at_ + k.S.length / 2 ≤ k.S.length) :
    Calls Tryz.prog 40 #[.pointer (some ⟨k.p, 0, none⟩), .int .i64 (at_ : Int)] w fun e w' => ∃ m, e = .returned (.tuple #[.agg #[.int .i64 (at_ : Int), .int .u32 (arT (k.S.length / 2) (arX k.S at_) : Nat), .map m], .bool (arIs (k.S.length / 2) (arX k.S at_))]) ∧ TabV w' m (arTab (k.S.length / 2) (arX k.S at_)) ∧ (∀ b, m = some b → w.heap.size ≤ b) ∧ Keeps [] w w' := by
  cases ht : isTitle (arX k.S at_)
  · have e1 : areaP (k.S.length / 2) (arX k.S at_) = none := by simp [areaP, ht]
    refine (areaat_none k at_ w hd hat ht).mono ?_
    rintro e w' ⟨rfl, hk⟩
    refine ⟨none, by simp only [arT, arIs, e1]; rfl, by simp only [arTab, e1]; rfl, fun b hb => by (cases hb), hk⟩
  · exact areaat_title k at_ w hd hat ht

/-- Where the area that counts lies. -/
def inFirst (S : List UInt8) : Bool := arIs (S.length / 2) (arX S 0) && (!arIs (S.length / 2) (arX S (S.length / 2)) || laterT (arT (S.length / 2) (arX S 0)) (arT (S.length / 2) (arX S (S.length / 2))))
def latAt (S : List UInt8) : Nat := if inFirst S then 0 else S.length / 2
def latT (S : List UInt8) : Nat := arT (S.length / 2) (arX S (latAt S))
def latTab (S : List UInt8) : Tab := arTab (S.length / 2) (arX S (latAt S))

theorem arT_lt (half : Nat) (xs : List UInt8) : arT half xs < 4294967296 := by
  unfold arT areaP
  split
  · rename_i p h
    split at h
    · split at h
      · split at h
        · split at h
          · injection h with h
            subst h
            exact num4_lt _
          · cases h
        · cases h
      · cases h
    · cases h
  · omega

set_option maxHeartbeats 1000000 in
theorem latest_is (k : Dk) (w : World) (hd : DiskAt w k) :
    Calls Tryz.prog 22 #[.pointer (some ⟨k.p, 0, none⟩)] w fun e w' => ∃ m, e = .returned (.agg #[.int .i64 (latAt k.S : Int), .int .u32 (latT k.S : Nat), .map m]) ∧ TabV w' m (latTab k.S) ∧ (∀ b, m = some b → w.heap.size ≤ b) ∧ Keeps [] w w' := by
  have hbig := hd.big
  have hk0 : Keeps [] w (w.alloc (.cells #[.int .i64 0, .int .u32 0, .map none] 62)) := (Keeps.refl [] w).alloc _
  have b0 := heap_alloc_new w (.cells #[.int .i64 0, .int .u32 0, .map none] 62)
  have H1 := Lib.hid (fun w1 (hk : Keeps [] w w1) => areaat_is k 0 w1 (hd.grow hk) (by omega))
  have H2 := Lib.hid (fun w1 (hk : Keeps [] w w1) => areaat_is k (k.S.length / 2) w1 (hd.grow hk) (by omega))
  have HA := Lib.hid (fun w1 (hk : Keeps [] w w1) => areasize_is k w1 (hd.grow hk))
  have hat : Hid (inFirst k.S = (arIs (k.S.length / 2) (arX k.S 0) && (!arIs (k.S.length / 2) (arX k.S (k.S.length / 2)) || laterT (arT (k.S.length / 2) (arX k.S 0)) (arT (k.S.length / 2) (arX k.S (k.S.length / 2)))))) := rfl
  have l1 := arT_lt (k.S.length / 2) (arX k.S 0)
  have l2 := arT_lt (k.S.length / 2) (arX k.S (k.S.length / 2))
  have r1 : Hid (inFirst k.S = true → latAt k.S = 0 ∧ latT k.S = arT (k.S.length / 2) (arX k.S 0) ∧ latTab k.S = arTab (k.S.length / 2) (arX k.S 0)) := fun h => by simp [latAt, latT, latTab, h]
  have r2 : Hid (inFirst k.S = false → latAt k.S = k.S.length / 2 ∧ latT k.S = arT (k.S.length / 2) (arX k.S (k.S.length / 2)) ∧ latTab k.S = arTab (k.S.length / 2) (arX k.S (k.S.length / 2))) := fun h => by simp [latAt, latT, latTab, h]
  generalize inFirst k.S = inF at *
  generalize latAt k.S = lA at *
  generalize latT k.S = lT at *
  generalize latTab k.S = lB at *
  generalize arT (k.S.length / 2) (arX k.S 0) = t1 at *
  generalize arTab (k.S.length / 2) (arX k.S 0) = T1 at *
  generalize arT (k.S.length / 2) (arX k.S (k.S.length / 2)) = t2 at *
  generalize arTab (k.S.length / 2) (arX k.S (k.S.length / 2)) = T2 at *
  generalize arIs (k.S.length / 2) (arX k.S 0) = i1 at *
  generalize arIs (k.S.length / 2) (arX k.S (k.S.length / 2)) = i2 at *
  generalize k.S.length / 2 = hf at *
  have HB0 := Lib.hid b0
  have HK0 := Lib.hid hk0
  clear b0 hk0 hd
  cases i1
  · obtain ⟨e2, e3, e4⟩ := r2.out hat.out
    replace e2 := e2.symm
    replace e3 := e3.symm
    replace e4 := e4.symm
    subst e2
    subst e3
    subst e4
    clear hat r1 r2
    go_enter Tryz.func22, Tryz.ntmps22
    go_wp2_with fail
    refine (H1.out _ HK0.out).mono ?_
    rintro e w1 ⟨m1, rfl, hv1, hn1, hk1⟩
    have HQA := Lib.hid (hk1.alloc (.cells #[.int .i64 0, .int .u32 (t1 : Int), .map m1] 62))
    have HV1 := Lib.hid (hv1.grow ((Keeps.refl [] w1).alloc (.cells #[.int .i64 0, .int .u32 (t1 : Int), .map m1] 62)))
    have HN1 := Lib.hid hn1
    have HY1 := Lib.hid (heap_alloc_new w1 (.cells #[.int .i64 0, .int .u32 (t1 : Int), .map m1] 62))
    clear hv1 hn1 hk1 H1
    go_wp2_with fail
    refine (HA.out _ (HK0.out.trans' HQA.out)).mono ?_
    rintro e w' ⟨rfl, rfl⟩
    go_wp2_with fail
    refine (H2.out _ (HK0.out.trans' HQA.out)).mono ?_
    rintro e w2 ⟨m2, rfl, hv2, hn2, hk2⟩
    have HQB := Lib.hid ((HQA.out.trans' hk2).alloc (.cells #[.int .i64 (hf : Int), .int .u32 (t2 : Int), .map m2] 62))
    have HV2 := Lib.hid (hv2.grow ((Keeps.refl [] w2).alloc (.cells #[.int .i64 (hf : Int), .int .u32 (t2 : Int), .map m2] 62)))
    have HV1 := Lib.hid (HV1.out.grow (hk2.alloc (.cells #[.int .i64 (hf : Int), .int .u32 (t2 : Int), .map m2] 62)))
    have HN2 := Lib.hid hn2
    have hz1 := HQA.out.size
    have hY1 := blk_keep HY1.out (hk2.alloc (.cells #[.int .i64 (hf : Int), .int .u32 (t2 : Int), .map m2] 62)) (by simp)
    have hY2 := heap_alloc_new w2 (.cells #[.int .i64 (hf : Int), .int .u32 (t2 : Int), .map m2] 62)
    clear hv2 hn2 hk2 H2 HA HY1
    obtain ⟨X, hX⟩ : ∃ X, w2.alloc (.cells #[.int .i64 (hf : Int), .int .u32 (t2 : Int), .map m2] 62) = X := ⟨_, rfl⟩
    rw [hX] at HQB HV2 HV1 hY1 hY2
    have hSX := blk_keep HB0.out HQB.out (by simp)
    have HF := Lib.hid (area_store hSX (HK0.out.trans' HQB.out) (.int .i64 (hf : Int)) (.int .u32 (t2 : Int)) (.map m2))
    obtain ⟨⟨c0, c1, c2⟩, f0, f1, f2⟩ := three_facts hSX
    obtain ⟨⟨y0, y1, y2⟩, _, _, _⟩ := three_facts hY1
    obtain ⟨⟨z0, z1, z2⟩, _, _, _⟩ := three_facts hY2
    clear hSX hY1 hY2
    go_wp2_with fail
    obtain ⟨h1, h2⟩ := HF.out
    have k7 : Keeps [w.heap.size] X (((X.setCell ⟨w.heap.size, 0, none⟩ (.int .i64 (hf : Int))).setCell ⟨w.heap.size, 1, none⟩ (.int .u32 (t2 : Int))).setCell ⟨w.heap.size, 2, none⟩ (.map m2)) := (((Keeps.refl _ X).setCell (.inl (by simp)) _).setCell (.inl (by simp)) _).setCell (.inl (by simp)) _
    have hzw : (w.alloc (.cells #[.int .i64 0, .int .u32 0, .map none] 62)).heap.size = w.heap.size + 1 := by simp
    refine bodyPost_ret (res_cell rfl _ _ rfl h1) rfl ⟨m2, rfl, HV2.out.keep k7 (fun b hb hm => by have h9 := HN2.out b hb; simp at hm; omega), fun b hb => by have h9 := HN2.out b hb; omega, h2⟩
  · cases i2
    · obtain ⟨e2, e3, e4⟩ := r1.out hat.out
      replace e2 := e2.symm
      replace e3 := e3.symm
      replace e4 := e4.symm
      subst e2
      subst e3
      subst e4
      clear hat r1 r2
      go_enter Tryz.func22, Tryz.ntmps22
      go_wp2_with fail
      refine (H1.out _ HK0.out).mono ?_
      rintro e w1 ⟨m1, rfl, hv1, hn1, hk1⟩
      have HQA := Lib.hid (hk1.alloc (.cells #[.int .i64 0, .int .u32 (t1 : Int), .map m1] 62))
      have HV1 := Lib.hid (hv1.grow ((Keeps.refl [] w1).alloc (.cells #[.int .i64 0, .int .u32 (t1 : Int), .map m1] 62)))
      have HN1 := Lib.hid hn1
      have HY1 := Lib.hid (heap_alloc_new w1 (.cells #[.int .i64 0, .int .u32 (t1 : Int), .map m1] 62))
      clear hv1 hn1 hk1 H1
      go_wp2_with fail
      refine (HA.out _ (HK0.out.trans' HQA.out)).mono ?_
      rintro e w' ⟨rfl, rfl⟩
      go_wp2_with fail
      refine (H2.out _ (HK0.out.trans' HQA.out)).mono ?_
      rintro e w2 ⟨m2, rfl, hv2, hn2, hk2⟩
      have HQB := Lib.hid ((HQA.out.trans' hk2).alloc (.cells #[.int .i64 (hf : Int), .int .u32 (t2 : Int), .map m2] 62))
      have HV2 := Lib.hid (hv2.grow ((Keeps.refl [] w2).alloc (.cells #[.int .i64 (hf : Int), .int .u32 (t2 : Int), .map m2] 62)))
      have HV1 := Lib.hid (HV1.out.grow (hk2.alloc (.cells #[.int .i64 (hf : Int), .int .u32 (t2 : Int), .map m2] 62)))
      have HN2 := Lib.hid hn2
      have hz1 := HQA.out.size
      have hY1 := blk_keep HY1.out (hk2.alloc (.cells #[.int .i64 (hf : Int), .int .u32 (t2 : Int), .map m2] 62)) (by simp)
      have hY2 := heap_alloc_new w2 (.cells #[.int .i64 (hf : Int), .int .u32 (t2 : Int), .map m2] 62)
      clear hv2 hn2 hk2 H2 HA HY1
      obtain ⟨X, hX⟩ : ∃ X, w2.alloc (.cells #[.int .i64 (hf : Int), .int .u32 (t2 : Int), .map m2] 62) = X := ⟨_, rfl⟩
      rw [hX] at HQB HV2 HV1 hY1 hY2
      have hSX := blk_keep HB0.out HQB.out (by simp)
      have HF := Lib.hid (area_store hSX (HK0.out.trans' HQB.out) (.int .i64 0) (.int .u32 (t1 : Int)) (.map m1))
      obtain ⟨⟨c0, c1, c2⟩, f0, f1, f2⟩ := three_facts hSX
      obtain ⟨⟨y0, y1, y2⟩, _, _, _⟩ := three_facts hY1
      obtain ⟨⟨z0, z1, z2⟩, _, _, _⟩ := three_facts hY2
      clear hSX hY1 hY2
      go_wp2_with fail
      obtain ⟨h1, h2⟩ := HF.out
      have k7 : Keeps [w.heap.size] X (((X.setCell ⟨w.heap.size, 0, none⟩ (.int .i64 0)).setCell ⟨w.heap.size, 1, none⟩ (.int .u32 (t1 : Int))).setCell ⟨w.heap.size, 2, none⟩ (.map m1)) := (((Keeps.refl _ X).setCell (.inl (by simp)) _).setCell (.inl (by simp)) _).setCell (.inl (by simp)) _
      have hzw : (w.alloc (.cells #[.int .i64 0, .int .u32 0, .map none] 62)).heap.size = w.heap.size + 1 := by simp
      refine bodyPost_ret (res_cell rfl _ _ rfl h1) rfl ⟨m1, rfl, HV1.out.keep k7 (fun b hb hm => by have h9 := HN1.out b hb; simp at hm; omega), fun b hb => by have h9 := HN1.out b hb; omega, h2⟩
    · cases hlt : laterT t1 t2
      · obtain ⟨e2, e3, e4⟩ := r2.out (by rw [hat.out, hlt]; rfl)
        replace e2 := e2.symm
        replace e3 := e3.symm
        replace e4 := e4.symm
        subst e2
        subst e3
        subst e4
        clear hat r1 r2
        go_enter Tryz.func22, Tryz.ntmps22
        go_wp2_with fail
        refine (H1.out _ HK0.out).mono ?_
        rintro e w1 ⟨m1, rfl, hv1, hn1, hk1⟩
        have HQA := Lib.hid (hk1.alloc (.cells #[.int .i64 0, .int .u32 (t1 : Int), .map m1] 62))
        have HV1 := Lib.hid (hv1.grow ((Keeps.refl [] w1).alloc (.cells #[.int .i64 0, .int .u32 (t1 : Int), .map m1] 62)))
        have HN1 := Lib.hid hn1
        have HY1 := Lib.hid (heap_alloc_new w1 (.cells #[.int .i64 0, .int .u32 (t1 : Int), .map m1] 62))
        clear hv1 hn1 hk1 H1
        go_wp2_with fail
        refine (HA.out _ (HK0.out.trans' HQA.out)).mono ?_
        rintro e w' ⟨rfl, rfl⟩
        go_wp2_with fail
        refine (H2.out _ (HK0.out.trans' HQA.out)).mono ?_
        rintro e w2 ⟨m2, rfl, hv2, hn2, hk2⟩
        have HQB := Lib.hid ((HQA.out.trans' hk2).alloc (.cells #[.int .i64 (hf : Int), .int .u32 (t2 : Int), .map m2] 62))
        have HV2 := Lib.hid (hv2.grow ((Keeps.refl [] w2).alloc (.cells #[.int .i64 (hf : Int), .int .u32 (t2 : Int), .map m2] 62)))
        have HV1 := Lib.hid (HV1.out.grow (hk2.alloc (.cells #[.int .i64 (hf : Int), .int .u32 (t2 : Int), .map m2] 62)))
        have HN2 := Lib.hid hn2
        have hz1 := HQA.out.size
        have hY1 := blk_keep HY1.out (hk2.alloc (.cells #[.int .i64 (hf : Int), .int .u32 (t2 : Int), .map m2] 62)) (by simp)
        have hY2 := heap_alloc_new w2 (.cells #[.int .i64 (hf : Int), .int .u32 (t2 : Int), .map m2] 62)
        clear hv2 hn2 hk2 H2 HA HY1
        obtain ⟨X, hX⟩ : ∃ X, w2.alloc (.cells #[.int .i64 (hf : Int), .int .u32 (t2 : Int), .map m2] 62) = X := ⟨_, rfl⟩
        rw [hX] at HQB HV2 HV1 hY1 hY2
        have hSX := blk_keep HB0.out HQB.out (by simp)
        have HF := Lib.hid (area_store hSX (HK0.out.trans' HQB.out) (.int .i64 (hf : Int)) (.int .u32 (t2 : Int)) (.map m2))
        obtain ⟨⟨c0, c1, c2⟩, f0, f1, f2⟩ := three_facts hSX
        obtain ⟨⟨y0, y1, y2⟩, _, _, _⟩ := three_facts hY1
        obtain ⟨⟨z0, z1, z2⟩, _, _, _⟩ := three_facts hY2
        have HSX := Lib.hid hSX
        have HYa := Lib.hid hY1
        have HYb := Lib.hid hY2
        clear hSX hY1 hY2
        have HLT := Lib.hid (fun W => later_is 0 hf t1 t2 m1 m2 W l1 l2)
        rw [hlt] at HLT
        go_wp2_with fail
        refine (HLT.out _).mono ?_
        rintro e X1 ⟨rfl, hkl⟩
        have hSX := blk_keep HSX.out hkl (by simp)
        have hY1 := blk_keep HYa.out hkl (by simp)
        have hY2 := blk_keep HYb.out hkl (by simp)
        have HF := Lib.hid (area_store hSX ((HK0.out.trans' HQB.out).trans' hkl) (.int .i64 (hf : Int)) (.int .u32 (t2 : Int)) (.map m2))
        have HV := Lib.hid (HV2.out.grow hkl)
        have hzX := HQB.out.size
        have hzX1 := hkl.size
        obtain ⟨⟨c0, c1, c2⟩, f0, f1, f2⟩ := three_facts hSX
        obtain ⟨⟨y0, y1, y2⟩, _, _, _⟩ := three_facts hY1
        obtain ⟨⟨z0, z1, z2⟩, _, _, _⟩ := three_facts hY2
        clear hSX hY1 hY2 hkl
        go_wp2_with fail
        obtain ⟨h1, h2⟩ := HF.out
        have k7 : Keeps [w.heap.size] X1 (((X1.setCell ⟨w.heap.size, 0, none⟩ (.int .i64 (hf : Int))).setCell ⟨w.heap.size, 1, none⟩ (.int .u32 (t2 : Int))).setCell ⟨w.heap.size, 2, none⟩ (.map m2)) := (((Keeps.refl _ X1).setCell (.inl (by simp)) _).setCell (.inl (by simp)) _).setCell (.inl (by simp)) _
        have hzw : (w.alloc (.cells #[.int .i64 0, .int .u32 0, .map none] 62)).heap.size = w.heap.size + 1 := by simp
        refine bodyPost_ret (res_cell rfl _ _ rfl h1) rfl ⟨m2, rfl, HV.out.keep k7 (fun b hb hm => by have h9 := HN2.out b hb; simp at hm; omega), fun b hb => by have h9 := HN2.out b hb; omega, h2⟩
      · obtain ⟨e2, e3, e4⟩ := r1.out (by rw [hat.out, hlt]; rfl)
        replace e2 := e2.symm
        replace e3 := e3.symm
        replace e4 := e4.symm
        subst e2
        subst e3
        subst e4
        clear hat r1 r2
        go_enter Tryz.func22, Tryz.ntmps22
        go_wp2_with fail
        refine (H1.out _ HK0.out).mono ?_
        rintro e w1 ⟨m1, rfl, hv1, hn1, hk1⟩
        have HQA := Lib.hid (hk1.alloc (.cells #[.int .i64 0, .int .u32 (t1 : Int), .map m1] 62))
        have HV1 := Lib.hid (hv1.grow ((Keeps.refl [] w1).alloc (.cells #[.int .i64 0, .int .u32 (t1 : Int), .map m1] 62)))
        have HN1 := Lib.hid hn1
        have HY1 := Lib.hid (heap_alloc_new w1 (.cells #[.int .i64 0, .int .u32 (t1 : Int), .map m1] 62))
        clear hv1 hn1 hk1 H1
        go_wp2_with fail
        refine (HA.out _ (HK0.out.trans' HQA.out)).mono ?_
        rintro e w' ⟨rfl, rfl⟩
        go_wp2_with fail
        refine (H2.out _ (HK0.out.trans' HQA.out)).mono ?_
        rintro e w2 ⟨m2, rfl, hv2, hn2, hk2⟩
        have HQB := Lib.hid ((HQA.out.trans' hk2).alloc (.cells #[.int .i64 (hf : Int), .int .u32 (t2 : Int), .map m2] 62))
        have HV2 := Lib.hid (hv2.grow ((Keeps.refl [] w2).alloc (.cells #[.int .i64 (hf : Int), .int .u32 (t2 : Int), .map m2] 62)))
        have HV1 := Lib.hid (HV1.out.grow (hk2.alloc (.cells #[.int .i64 (hf : Int), .int .u32 (t2 : Int), .map m2] 62)))
        have HN2 := Lib.hid hn2
        have hz1 := HQA.out.size
        have hY1 := blk_keep HY1.out (hk2.alloc (.cells #[.int .i64 (hf : Int), .int .u32 (t2 : Int), .map m2] 62)) (by simp)
        have hY2 := heap_alloc_new w2 (.cells #[.int .i64 (hf : Int), .int .u32 (t2 : Int), .map m2] 62)
        clear hv2 hn2 hk2 H2 HA HY1
        obtain ⟨X, hX⟩ : ∃ X, w2.alloc (.cells #[.int .i64 (hf : Int), .int .u32 (t2 : Int), .map m2] 62) = X := ⟨_, rfl⟩
        rw [hX] at HQB HV2 HV1 hY1 hY2
        have hSX := blk_keep HB0.out HQB.out (by simp)
        have HF := Lib.hid (area_store hSX (HK0.out.trans' HQB.out) (.int .i64 0) (.int .u32 (t1 : Int)) (.map m1))
        obtain ⟨⟨c0, c1, c2⟩, f0, f1, f2⟩ := three_facts hSX
        obtain ⟨⟨y0, y1, y2⟩, _, _, _⟩ := three_facts hY1
        obtain ⟨⟨z0, z1, z2⟩, _, _, _⟩ := three_facts hY2
        have HSX := Lib.hid hSX
        have HYa := Lib.hid hY1
        have HYb := Lib.hid hY2
        clear hSX hY1 hY2
        have HLT := Lib.hid (fun W => later_is 0 hf t1 t2 m1 m2 W l1 l2)
        rw [hlt] at HLT
        go_wp2_with fail
        refine (HLT.out _).mono ?_
        rintro e X1 ⟨rfl, hkl⟩
        have hSX := blk_keep HSX.out hkl (by simp)
        have hY1 := blk_keep HYa.out hkl (by simp)
        have hY2 := blk_keep HYb.out hkl (by simp)
        have HF := Lib.hid (area_store hSX ((HK0.out.trans' HQB.out).trans' hkl) (.int .i64 0) (.int .u32 (t1 : Int)) (.map m1))
        have HV := Lib.hid (HV1.out.grow hkl)
        have hzX := HQB.out.size
        have hzX1 := hkl.size
        obtain ⟨⟨c0, c1, c2⟩, f0, f1, f2⟩ := three_facts hSX
        obtain ⟨⟨y0, y1, y2⟩, _, _, _⟩ := three_facts hY1
        obtain ⟨⟨z0, z1, z2⟩, _, _, _⟩ := three_facts hY2
        clear hSX hY1 hY2 hkl
        go_wp2_with fail
        obtain ⟨h1, h2⟩ := HF.out
        have k7 : Keeps [w.heap.size] X1 (((X1.setCell ⟨w.heap.size, 0, none⟩ (.int .i64 0)).setCell ⟨w.heap.size, 1, none⟩ (.int .u32 (t1 : Int))).setCell ⟨w.heap.size, 2, none⟩ (.map m1)) := (((Keeps.refl _ X1).setCell (.inl (by simp)) _).setCell (.inl (by simp)) _).setCell (.inl (by simp)) _
        have hzw : (w.alloc (.cells #[.int .i64 0, .int .u32 0, .map none] 62)).heap.size = w.heap.size + 1 := by simp
        refine bodyPost_ret (res_cell rfl _ _ rfl h1) rfl ⟨m1, rfl, HV.out.keep k7 (fun b hb hm => by have h9 := HN1.out b hb; simp at hm; omega), fun b hb => by have h9 := HN1.out b hb; omega, h2⟩

end Go.Proofs.YthgpjlmdllihmaaGreat
/- Open. -/
namespace Go.Proofs.YthgpjlmdllihmaaGreat
open Go.RowKit Go.Shelf Go.Maps
set_option linter.unusedVariables false
set_option linter.unusedSimpArgs false
set_option maxRecDepth 100000

/-- A store in memory. -/
structure St where
  p : Nat
  at_ : Nat
  turn : Nat
  m : Option Nat
  dp : Nat
  br : Bool
def St.cells (s : St) : Array Value := #[.int .i64 (s.at_ : Int), .int .u32 (s.turn : Int), .map s.m, .pointer (some ⟨s.dp, 0, none⟩), .bool s.br]
def StAt (w : World) (s : St) : Prop := w.heap[s.p]? = some (.cells s.cells 65 (0, 0))

theorem StAt.keep {w w' : World} {s : St} {bs : List Nat} (h : StAt w s) (hk : Keeps bs w w') (hb : s.p ∉ bs) : StAt w' s := blk_keep h hk hb
theorem StAt.lt {w : World} {s : St} (h : StAt w s) : s.p < w.heap.size := lt_of_heap h

theorem open_ok (k : Dk) (w : World) (hd : DiskAt w k) (h : 256 ≤ k.S.length) :
    Calls Tryz.prog 8 #[.pointer (some ⟨k.p, 0, none⟩)] w fun e w' => ∃ p m, e = .returned (.tuple #[.pointer (some ⟨p, 0, none⟩), .int .i64 0]) ∧ StAt w' ⟨p, latAt k.S, latT k.S, m, k.p, false⟩ ∧ TabV w' m (latTab k.S) ∧ (∀ b, m = some b → w.heap.size ≤ b ∧ b < p) ∧ w.heap.size ≤ p ∧ Keeps [] w w' := by
  have HS := Lib.hid (fun w1 (hk : Keeps [] w w1) => size_disk k w1 (hd.grow hk))
  have HL := Lib.hid (latest_is k w hd)
  have hne : ¬ ((k.S.length : Int) = 0) := by omega
  have hne2 : ((k.S.length : Int) == 0) = false := by simpa using hne
  have hlt : ¬ (k.S.length : Int) < 256 := by omega
  clear hd
  go_enter Tryz.func8, Tryz.ntmps8
  go_wp2
  refine wp_scope_once 0 rfl ?_
  go_wp2_with fail
  refine (HS.out _ (Keeps.refl [] w)).mono ?_
  rintro e w1 ⟨rfl, rfl⟩
  go_wp2_with fail
  refine (HS.out _ (Keeps.refl [] w)).mono ?_
  rintro e w1 ⟨rfl, rfl⟩
  go_wp2_with fail
  refine HL.out.mono ?_
  rintro e w1 ⟨m, rfl, hv, hn, hk⟩
  have HV := Lib.hid hv
  have HN := Lib.hid hn
  have HK := Lib.hid hk
  clear hv hn hk
  go_wp2_with fail
  simp only [Exit.jump]
  go_ret2
  have ka := (Keeps.refl [] w1).alloc (.cells (St.cells ⟨w1.heap.size, latAt k.S, latT k.S, m, k.p, false⟩) 65)
  exact ⟨w1.heap.size, m, rfl, heap_alloc_new w1 _, HV.out.grow ka, fun b hb => ⟨HN.out b hb, by subst hb; exact HV.out.lt⟩, HK.out.size, HK.out.trans' ka⟩

/-- Open refuses. -/
theorem open_nil (v : Value) (w : World) (hs : Calls Tryz.prog 21 #[v] w fun e w' => e = .returned (.int .i64 0) ∧ w = w') : Calls Tryz.prog 8 #[v] w fun e w' => e = .returned (.tuple #[.pointer none, .int .i64 1]) ∧ w = w' := by
  have HS := Lib.hid hs
  clear hs
  go_enter Tryz.func8, Tryz.ntmps8
  go_wp2
  refine wp_scope_once 0 rfl ?_
  go_wp2_with fail
  refine HS.out.mono ?_
  rintro e w1 ⟨rfl, rfl⟩
  go_wp2_with fail
  go_step3
  refine ⟨rfl, ?_⟩
  go_wp2
  rw [Exit.noGoto_ret]
  go_ret2
  exact ⟨rfl, rfl⟩

theorem open_small (k : Dk) (w : World) (hd : DiskAt w k) (h : k.S.length < 256) : Calls Tryz.prog 8 #[.pointer (some ⟨k.p, 0, none⟩)] w fun e w' => e = .returned (.tuple #[.pointer none, .int .i64 2]) ∧ w = w' := by
  have HS := Lib.hid (size_disk k w hd)
  have hp := hd.pos
  have hne : ¬ ((k.S.length : Int) = 0) := by omega
  have hne2 : ((k.S.length : Int) == 0) = false := by simpa using hne
  have hlt : (k.S.length : Int) < 256 := by omega
  clear hd
  go_enter Tryz.func8, Tryz.ntmps8
  go_wp2
  refine wp_scope_once 0 rfl ?_
  go_wp2_with fail
  refine HS.out.mono ?_
  rintro e w1 ⟨rfl, rfl⟩
  go_wp2_with fail
  refine HS.out.mono ?_
  rintro e w1 ⟨rfl, rfl⟩
  go_wp2_with fail
  go_step3
  refine ⟨rfl, ?_⟩
  go_wp2
  rw [Exit.noGoto_ret]
  go_ret2
  exact ⟨rfl, rfl⟩

end Go.Proofs.YthgpjlmdllihmaaGreat
