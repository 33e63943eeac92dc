/- FramesOwn: unlike records have unlike frames; a record is told in memory of its own. -/
import Derived.Test.YtaifchikjnnppaaQ1
namespace Go.Proofs.Ytaifchikjnnppaa
open Go.RowKit
set_option linter.unusedVariables false

theorem frameOf_inj {x y : List UInt8} (hx : x.length ≤ 500) (hy : y.length ≤ 500) (h : frameOf x = frameOf y) : x = y := by
  have h1 := frameOf_rec (r := x) (by omega) []
  have h2 := frameOf_rec (r := y) (by omega) []
  rw [← h1, ← h2, h]

/-- Cells of a frame under way: whatever they are, they are bytes. -/
structure Anys (w wr : World) (g n : Nat) : Prop where
  cell : ∀ i, i < n → ∃ u : Nat, u < 256 ∧ wr.cell? ⟨g, i, none⟩ = some (.int .u8 (u : Int))
  free : ∀ i, i < n → wr.frozen? ⟨g, i, none⟩ = false
  keep : Keeps [g] w wr
  lt : g < wr.heap.size

theorem Anys.next {w wr : World} {g n j u : Nat} (h : Anys w wr g n) (hu : u < 256) : Anys w (wr.setCell ⟨g, j, none⟩ (.int .u8 (u : Int))) g n := by
  refine ⟨fun i hi => ?_, fun i hi => ?_, h.keep.setCell (.inl (by simp)) _, by show g < (wr.heap.modify _ _).size; rw [Array.size_modify]; exact h.lt⟩
  · obtain ⟨v, hv, hc⟩ := h.cell i hi
    by_cases hij : i = j
    · subst hij
      exact ⟨u, hu, World.cell?_setCell_same' _ _ _ (by rw [hc]; rfl)⟩
    · exact ⟨v, hv, (World.cell?_setCell_other _ _ _ _ (by intro h; cases h; exact hij rfl)).trans hc⟩
  · rw [World.frozen?_setCell]
    exact h.free i hi

theorem own_in (A B : Option Addr) (n m c d : Nat) (x y : List UInt8) (w : World) (hn : x.length = n) (hm : y.length = m) (hx : BytesAt w (.slice A n c) x) (hy : BytesAt w (.slice B m d) y) (h1 : n ≤ 500) (h2 : m ≤ 500) : Calls Try.prog 9 #[.slice A n c, .slice B m d] w fun e w' => e = .returned (.bool true) ∧ Keeps [] w w' := by
  have F1 := Lib.hid (frame_ok A n c x w hn hx (by omega))
  have F2 := Lib.hid (fun w1 hk => frame_ok B m d y w1 hm (hy.grow hk) (by omega))
  have HX := Lib.hid hx
  have HY := Lib.hid hy
  have HN := Lib.hid hn
  have HM := Lib.hid hm
  have heq : (frameOf x == frameOf y) = (x == y) := by
    rw [Bool.eq_iff_iff, beq_iff_eq, beq_iff_eq]
    exact ⟨frameOf_inj (by omega) (by omega), fun h => by rw [h]⟩
  clear hx hy hn hm
  go_enter Try.func9, Try.ntmps9
  go_wp2_with fail
  refine F1.out.mono ?_
  rintro e w1 ⟨g, cp, rfl, hg, hM, hk1⟩
  have HK1 := Lib.hid hk1
  have HM1 := Lib.hid hM
  clear hk1 hM F1
  go_wp2_with fail
  refine (F2.out w1 HK1.out).mono ?_
  rintro e w2 ⟨g2, cp2, rfl, hg2, hM2, hk2⟩
  have HK2 := Lib.hid (HK1.out.trans' hk2)
  have HM2 := Lib.hid (HM1.out.keep hk2 (by simp))
  have v1 : (convert 22 9 (.slice (some ⟨g, 0, none⟩) (n + 12) cp)).run Try.prog w2 = .ok (.string ⟨(frameOf x).toArray⟩) w2 := by
    have h := conv_bytes HM2.out.bytes
    rw [frameOf_len, HN.out] at h
    exact h
  have v2 : (convert 22 9 (.slice (some ⟨g2, 0, none⟩) (m + 12) cp2)).run Try.prog w2 = .ok (.string ⟨(frameOf y).toArray⟩) w2 := by
    have h := conv_bytes hM2.bytes
    rw [frameOf_len, HM.out] at h
    exact h
  have v3 := conv_bytes (HX.out.grow HK2.out)
  have v4 := conv_bytes (HY.out.grow HK2.out)
  clear hk2 hM2 F2
  go_wp2_with fail
  have hbf : BytesAt w2 (.slice (some ⟨g, 0, none⟩) (n + 12) cp) (frameOf x) := by
    have h := HM2.out.bytes
    rw [frameOf_len, HN.out] at h
    exact h
  have hfl : (frameOf x).length = n + 12 := by rw [frameOf_len, HN.out]
  have hff := frameOf_framed (r := x) (by have := HN.out; omega) []
  have hfr := frameOf_rec (r := x) (by have := HN.out; omega) []
  rw [List.append_nil] at hff hfr
  have HFI := Lib.hid (first_is (some ⟨g, 0, none⟩) (n + 12) cp (frameOf x) w2 hfl hbf)
  rw [show fstR (frameOf x) = x by simp [fstR, hff, hfr], show fstN (frameOf x) = n + 12 by simp [fstN, hff, hfr, HN.out], hff, HN.out] at HFI
  have hgl := HM2.out.lt
  have hcp := HM2.out.len
  rw [hfl] at hcp
  have hcm : cp ≤ 9223372036854775807 := by have := HM2.out.cap; unfold maxLen at this; omega
  clear hff hfr hbf v1 v2 v3 v4 heq
  refine HFI.out.mono ?_
  rintro e w3 ⟨E, ec, rfl, hbE, hoE, hk3⟩
  have HM3 := Lib.hid (HM2.out.keep hk3 (by simp))
  have HBE := Lib.hid hbE
  have HOE := Lib.hid hoE
  have HK3 := Lib.hid (HK2.out.trans' hk3)
  have HA0 : Hid (Anys w3 w3 g (n + 12)) := ⟨fun i hi => ⟨((frameOf x)[i]'(by omega)).toNat, ((frameOf x)[i]'(by omega)).toNat_lt, HM3.out.cell i _ (List.getElem?_eq_getElem (by omega))⟩, fun i hi => HM3.out.free i (by omega), Keeps.refl _ _, HM3.out.lt⟩
  have hz2 := HK2.out.size
  have HK23 := Lib.hid hk3
  clear hbE hoE hk3 HFI
  go_wp2
  go_loopw [12] (fun i wr => ∃ j : Nat, i = .int .i64 (j : Int) ∧ j ≤ n + 12 ∧ Hid (Anys w3 wr g (n + 12))) (fun i _ => n + 12 - (intOf i).toNat)
  case atStart => exact ⟨0, rfl, Nat.zero_le _, HA0⟩
  case round =>
    obtain ⟨j, rfl, hj, HA⟩ := hrel
    by_cases hlt : j < n + 12
    · obtain ⟨u, hu, c0⟩ := HA.out.cell j hlt
      have f0 := HA.out.free j hlt
      have ex := u8_xor_nat u 255 hu (by decide)
      have hx8 : u ^^^ 255 < 256 := Nat.xor_lt_two_pow (n := 8) hu (by decide)
      have HX := Lib.hid (HA.out.next (j := j) hx8)
      have ex2 : bits .xor .u8 (u : Int) 255 = ((u ^^^ 255 : Nat) : Int) := ex
      clear ex
      go_wp2_with fail
      go_roundw
      case rel => exact ⟨j + 1, by go_num, by omega, HX⟩
      case measure => simp [intOf]; omega
    · obtain rfl : j = n + 12 := by omega
      have kA := HA.out.keep
      have v5 : (convert 22 9 (.slice E n ec)).run Try.prog wr = .ok (.string ⟨x.toArray⟩) wr := conv_bytes (HBE.out.keep kA (fun b hb hm => by
        have := HOE.out b hb
        simp at hm
        omega))
      have HKW : Hid (Keeps [] w wr) := HK3.out.trans kA (fun y hy => .inr (by simp at hy; omega))
      have v6 := conv_bytes (HX.out.grow HKW.out)
      clear kA
      go_wp2_with fail
      refine (size_ok A n c wr (by omega)).mono ?_
      rintro e w4 ⟨rfl, rfl⟩
      go_wp2_with fail
      refine (known3_any wr).mono ?_
      rintro e w5 ⟨rfl, hk5⟩
      have HK5 := Lib.hid (HKW.out.trans' hk5)
      clear hk5
      go_wp2_with fail
      go_ret
      exact ⟨rfl, HK5.out⟩

theorem own_out (A B : Option Addr) (n m c d : Nat) (w : World) (hn : n ≤ 9223372036854775807) (hm : m ≤ 9223372036854775807) (h : 500 < n ∨ (n ≤ 500 ∧ 500 < m)) : Calls Try.prog 9 #[.slice A n c, .slice B m d] w fun e w' => e = .returned (.bool true) ∧ Keeps [] w w' := by
  rcases h with h1 | ⟨h1, h2⟩
  · go_enter Try.func9, Try.ntmps9
    go_wp2_with fail
    refine (known3_any w).mono ?_
    rintro e w1 ⟨rfl, hk1⟩
    have HK1 := Lib.hid hk1
    clear hk1
    go_wp2_with fail
    go_ret
    exact ⟨rfl, HK1.out⟩
  · go_enter Try.func9, Try.ntmps9
    go_wp2_with fail
    refine (known3_any w).mono ?_
    rintro e w1 ⟨rfl, hk1⟩
    have HK1 := Lib.hid hk1
    clear hk1
    go_wp2_with fail
    go_ret
    exact ⟨rfl, HK1.out⟩

theorem own_row (A : Option Addr) (n c : Nat) (x : List UInt8) (B : Option Addr) (m d : Nat) (y : List UInt8) (w : World) (hx : BytesAt w (.slice A n c) x) (hn : x.length = n) (h1 : n ≤ 9223372036854775807) (hy : BytesAt w (.slice B m d) y) (hm : y.length = m) (h2 : m ≤ 9223372036854775807) : Calls Try.prog 9 #[.slice A n c, .slice B m d] w fun e w' => e = .returned (.bool true) ∧ Below w.heap.size w w' := by
  have h : Calls Try.prog 9 #[.slice A n c, .slice B m d] w fun e w' => e = .returned (.bool true) ∧ Keeps [] w w' := by
    by_cases a : 500 < n
    · exact own_out A B n m c d w h1 h2 (.inl a)
    · by_cases b : 500 < m
      · exact own_out A B n m c d w h1 h2 (.inr ⟨by omega, b⟩)
      · exact own_in A B n m c d x y w hn hm hx hy (by omega) (by omega)
  exact h.mono fun e w' ⟨h1, h2⟩ => ⟨h1, h2.below (Nat.le_refl _) (by simp)⟩

end Go.Proofs.Ytaifchikjnnppaa
