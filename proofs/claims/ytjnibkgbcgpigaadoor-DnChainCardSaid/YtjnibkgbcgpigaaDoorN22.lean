
/- dn: cutter's closure; walked. -/
import Derived.Test.YtjnibkgbcgpigaaDoorN21
namespace Go.Proofs.YtjnibkgbcgpigaaDoor
open Go.RowKit Go.Shelf
set_option linter.unusedVariables false
set_option linter.unusedSimpArgs false
set_option maxRecDepth 100000

/-- A box with one value. -/
def Box1 (w : World) (p : Nat) (t : TypeId) (v : Value) : Prop := w.heap[p]? = some (.cells #[v] t (0, 0))
theorem Box1.cell {w : World} {p : Nat} {t : TypeId} {v : Value} (h : Box1 w p t v) : w.cell? ⟨p, 0, none⟩ = some v := by rw [cell_of_blk h]; rfl
theorem Box1.free {w : World} {p : Nat} {t : TypeId} {v : Value} (h : Box1 w p t v) : w.frozen? ⟨p, 0, none⟩ = false := by
  unfold Box1 at h
  simp [World.frozen?, h]
theorem Box1.set {w : World} {p : Nat} {t : TypeId} {v : Value} (h : Box1 w p t v) (v' : Value) : Box1 (w.setCell ⟨p, 0, none⟩ v') p t v' := by
  unfold Box1 at *
  simp [World.setCell, Array.getElem?_modify, h]
theorem Box1.keep {w X : World} {p : Nat} {t : TypeId} {v : Value} {bs : List Nat} (h : Box1 w p t v) (hk : Keeps bs w X) (hb : p ∉ bs) : Box1 X p t v := blk_keep h hk hb
theorem Box1.lt {w : World} {p : Nat} {t : TypeId} {v : Value} (h : Box1 w p t v) : p < w.heap.size := lt_of_heap h
def placeOf (w : World) (p : Nat) : Nat := match w.cell? ⟨p, 0, none⟩ with | some (.int _ k) => k.toNat | _ => 0
theorem placeOf_is {w : World} {p k : Nat} (h : w.cell? ⟨p, 0, none⟩ = some (.int .i64 (k : Int))) : placeOf w p = k := by
  unfold placeOf
  rw [h]
  simp

set_option maxHeartbeats 4000000 in
theorem cutter1_is (T : List UInt8) (a : UInt8) (p g f : Nat) (w : World) (hl : T.length ≤ 9000000000000000000) (hf : f ≤ T.length) (ha : (92 : UInt8) ≠ a) (hp : Box1 w p 3 (.int .i64 (f : Int))) (hg : Box1 w g 9 (.string ⟨T.toArray⟩)) (hpg : g ≠ p) :
    Calls Tryd.prog 63 #[.int .u8 (a.toNat : Int), .pointer (some ⟨p, 0, none⟩), .pointer (some ⟨g, 0, none⟩)] w fun e w' => ∃ q : Nat, e = .returned (.tuple #[.string ⟨(cutL a (T.drop f)).1.toArray⟩, .bool (cutL a (T.drop f)).2.isSome]) ∧ Box1 w' p 3 (.int .i64 (q : Int)) ∧ (∀ r, (cutL a (T.drop f)).2 = some r → q ≤ T.length ∧ T.drop q = r) ∧ Keeps [p] w w' := by
  have HG := Lib.hid (fun X (hk : Keeps [p] w X) => (hg.keep hk (by simpa using hpg)))
  have HI := Lib.hid (CutI.start a T f hf)
  have HP := Lib.hid hp
  have HA := Lib.hid ha
  have hal : a.toNat < 256 := a.toNat_lt
  obtain ⟨L, hL⟩ : ∃ L, T.length = L := ⟨_, rfl⟩
  rw [hL] at hl hf
  have HL := Lib.hid hL
  have x0 := hp.cell
  clear hg hp hpg ha hL
  go_enter Tryd.func63, Tryd.ntmps63
  go_wp2_with fail
  clear x0
  go_loopw [8] (fun _ wr => ∃ k : Nat, Hid (CutI a T f k) ∧ Hid (Box1 wr p 3 (.int .i64 (k : Int))) ∧ Hid (Keeps [p] w wr)) (fun _ wr => L + 2 - placeOf wr p)
  case atStart => exact ⟨f, HI.out, HP.out, Keeps.refl _ _⟩
  case round =>
    obtain ⟨k, HC, HB, HKR⟩ := hrel
    have hkl : k ≤ L + 1 := by have := HC.out.2.1; have := HL.out; omega
    have hfk : f ≤ k := HC.out.1
    have c0 := HB.out.cell
    have z0 := HB.out.free
    have c1 := (HG.out wr HKR.out).cell
    have HPK := Lib.hid (placeOf_is c0)
    have hTL : (⟨T.toArray⟩ : ByteArray).size = L := HL.out
    by_cases hlt : k < L
    · obtain ⟨u, hu⟩ : ∃ u, T[k]? = some u := ⟨_, List.getElem?_eq_getElem (by rw [HL.out]; exact hlt)⟩
      have hul : u.toNat < 256 := u.toNat_lt
      have hix := str_at T k u hu
      have hlti : (k : Int) < (L : Int) := by omega
      by_cases h1 : u = a
      · subst h1
        have HFD := Lib.hid (HC.out.found hu)
        have hsl := str_cut T f k hfk (by rw [HL.out]; omega)
        have HB2 := Lib.hid (HB.out.set (.int .i64 ((k : Int) + 1)))
        have HK2 := Lib.hid (HKR.out.setCell (p := ⟨p, 0, none⟩) (.inl (by simp)) (.int .i64 ((k : Int) + 1)))
        have hwr : wrap64 ((k : Int) + 1) = (k : Int) + 1 := by unfold wrap64; omega
        have c0' := HB2.out.cell
        have c1' := (HG.out _ HK2.out).cell
        clear hu HPK
        go_wp2_with fail
        go_ret2
        refine ⟨k + 1, by rw [HFD.out]; rfl, HB2.out, fun r hr => ?_, HK2.out⟩
        rw [HFD.out] at hr
        injection hr with hr
        exact ⟨by have := HL.out; omega, hr⟩
      · have hne : ¬ (u.toNat : Int) = (a.toNat : Int) := fun h => h1 (UInt8.toNat_inj.1 (by omega))
        have hneb : ((u.toNat : Int) == (a.toNat : Int)) = false := by simpa using hne
        have HB2 := Lib.hid (HB.out.set (.int .i64 ((k : Int) + 1)))
        have HK2 := Lib.hid (HKR.out.setCell (p := ⟨p, 0, none⟩) (.inl (by simp)) (.int .i64 ((k : Int) + 1)))
        have hwr : wrap64 ((k : Int) + 1) = (k : Int) + 1 := by unfold wrap64; omega
        by_cases h2 : u = 92
        · have h92 : (u.toNat : Int) = 92 := by rw [h2]; rfl
          have HC2 : Hid (CutI a T f (k + 2)) := HC.out.over (by rw [hu, h2]) HA.out
          have HB3 := Lib.hid (HB2.out.set (.int .i64 ((k : Int) + 1 + 1)))
          have HK3 := Lib.hid (HK2.out.setCell (p := ⟨p, 0, none⟩) (.inl (by simp)) (.int .i64 ((k : Int) + 1 + 1)))
          have hwr2 : wrap64 ((k : Int) + 1 + 1) = (k : Int) + 1 + 1 := by unfold wrap64; omega
          clear hu h1 h2
          go_wp2_with fail
          go_roundw
          case rel => exact ⟨k + 2, HC2.out, HB3.out, HK3.out⟩
          case measure =>
            have e1 := HPK.out
            have e2 := placeOf_is (k := k + 2) HB3.out.cell
            rw [e1, e2]
            omega
        · have h92 : ¬ (u.toNat : Int) = 92 := fun h => h2 (UInt8.toNat_inj.1 (by show u.toNat = 92; omega))
          have h92b : ((u.toNat : Int) == 92) = false := by simpa using h92
          have HC2 : Hid (CutI a T f (k + 1)) := HC.out.next hu h1 h2
          clear hu h1 h2
          go_wp2_with fail
          go_roundw
          case rel => exact ⟨k + 1, HC2.out, HB2.out, HK2.out⟩
          case measure =>
            have e1 := HPK.out
            have e2 := placeOf_is (k := k + 1) HB2.out.cell
            rw [e1, e2]
            omega
    · have hge : ¬ (k : Int) < (L : Int) := by omega
      have HN := Lib.hid (HC.out.none (by rw [HL.out]; omega))
      have hsl := str_from T f (by rw [HL.out]; exact hf)
      clear HPK
      go_wp2_with fail
      go_ret2
      refine ⟨by rw [HN.out]; rfl, k, HB.out, fun r hr => ?_, HKR.out⟩
      rw [HN.out] at hr
      cases hr

end Go.Proofs.YtjnibkgbcgpigaaDoor
