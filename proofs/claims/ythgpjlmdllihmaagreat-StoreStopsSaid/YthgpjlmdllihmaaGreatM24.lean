/- Texts of one proof, laid together: U27 U28. -/
import Derived.Test.YthgpjlmdllihmaaGreatM23
import Derived.Test.YthgpjlmdllihmaaGreatM22
import Derived.Laws.IdiomCopy
import Derived.Lib.SliceRun
/- The head of an image, cleared. -/
namespace Go.Proofs.YthgpjlmdllihmaaGreat
open Go.RowKit Go.Shelf Go.Maps
set_option linter.unusedVariables false
set_option linter.unusedSimpArgs false
set_option maxRecDepth 100000

/-- Bytes without their head. -/
def headless (xs : List UInt8) : List UInt8 := List.replicate 8 0 ++ xs.drop 8
theorem headless_len {xs : List UInt8} (h : 8 ≤ xs.length) : (headless xs).length = xs.length := by
  simp [headless]
  omega

theorem keeps_setCells {bs : List Nat} {w : World} {b : Nat} : ∀ (vs : List Value) (o : Nat) {w' : World}, Keeps bs w w' → (b ∈ bs ∨ w.heap.size ≤ b) → Keeps bs w (w'.setCells b o vs)
  | [], _, _, h, _ => h
  | v :: vs, o, w', h, hb => keeps_setCells vs (o + 1) (h.setCell (p := ⟨b, o, none⟩) hb v) hb

theorem clear_bytes {w : World} {g c : Nat} {xs : List UInt8} (h : BytesAt w (.slice (some ⟨g, 0, none⟩) xs.length c) xs) (h8 : 8 ≤ xs.length) : BytesAt (w.setCells g 0 (List.replicate 8 (.int .u8 0))) (.slice (some ⟨g, 0, none⟩) xs.length c) (headless xs) := by
  obtain ⟨A, c', he, h1, h2, h3⟩ := h
  injection he with e1 e2 e3
  subst e1
  subst e3
  obtain ⟨b, o, hA, hc⟩ := h3 (by omega)
  injection hA with hA
  injection hA with hb ho _
  subst hb
  subst ho
  have hl := headless_len h8
  refine ⟨_, c, by rw [hl], by rw [hl]; exact h1, h2, fun _ => ⟨g, 0, rfl, fun i u hu => ?_⟩⟩
  rw [Nat.zero_add]
  by_cases hi : i < 8
  · have h4 := World.cell?_setCells_in g (List.replicate 8 (.int .u8 0)) 0 w (fun j hj => by
      rw [List.length_replicate] at hj
      rw [hc j _ (List.getElem?_eq_getElem (by omega))]
      rfl) i (by simpa using hi)
    rw [Nat.zero_add] at h4
    rw [h4]
    unfold headless at hu
    rw [List.getElem?_append_left (by simpa using hi), List.getElem?_replicate, if_pos hi] at hu
    have hu' : (0 : UInt8) = u := Option.some.inj hu
    rw [← hu', List.getElem_replicate]
    rfl
  · rw [World.cell?_setCells_out g _ 0 w ⟨g, i, none⟩ (fun _ _ => .inr (by simp; omega))]
    unfold headless at hu
    rw [List.getElem?_append_right (by simp; omega), List.length_replicate, List.getElem?_drop, show 8 + (i - 8) = i by omega] at hu
    have h5 := hc i u hu
    rw [Nat.zero_add] at h5
    exact h5

end Go.Proofs.YthgpjlmdllihmaaGreat
/- stepsTo. -/
namespace Go.Proofs.YthgpjlmdllihmaaGreat
open Go.RowKit Go.Shelf Go.Maps
set_option linter.unusedVariables false
set_option linter.unusedSimpArgs false
set_option maxRecDepth 100000

set_option maxHeartbeats 1000000 in
theorem steps_is (a : Option Addr) (m : Option Nat) (T : Tab) (at_ turn : Nat) (w : World) (h : TabV w m T) (ht : turn < 4294967296) (hT : Good T) (hw : tweight T ≤ 1000000) :
    Calls Tryz.prog 46 #[.pointer a, .agg #[.int .i64 (at_ : Int), .int .u32 (turn : Int), .map m]] w fun e w' => ∃ f bd ba bi bh gi ci gh ch, e = .returned (.slice (some ⟨f, 0, none⟩) 4 4) ∧
      StepsAt w' f #[.pointer (some ⟨bd, 0, none⟩), .pointer (some ⟨ba, 0, none⟩), .pointer (some ⟨bh, 0, none⟩)] #[.pointer (some ⟨bd, 0, none⟩)] #[.pointer (some ⟨bd, 0, none⟩), .pointer (some ⟨ba, 0, none⟩), .pointer (some ⟨bi, 0, none⟩)] #[.pointer (some ⟨bd, 0, none⟩)] ∧
      w'.cell? ⟨bd, 0, none⟩ = some (.pointer a) ∧ w'.cell? ⟨ba, 0, none⟩ = some (.int .i64 (at_ : Int)) ∧ w'.cell? ⟨bi, 0, none⟩ = some (.slice (some ⟨gi, 0, none⟩) (image turn T).length ci) ∧ w'.cell? ⟨bh, 0, none⟩ = some (.slice (some ⟨gh, 0, none⟩) (image turn T).length ch) ∧
      BytesAt w' (.slice (some ⟨gi, 0, none⟩) (image turn T).length ci) (image turn T) ∧ BytesAt w' (.slice (some ⟨gh, 0, none⟩) (image turn T).length ch) (headless (image turn T)) ∧
      w.heap.size ≤ f ∧ w.heap.size ≤ bd ∧ w.heap.size ≤ ba ∧ w.heap.size ≤ bi ∧ w.heap.size ≤ bh ∧ w.heap.size ≤ gi ∧ w.heap.size ≤ gh ∧ Keeps [] w w' := by
  obtain ⟨W0, hW0⟩ : ∃ W0, (w.alloc (.cells #[.pointer a] 30)).alloc (.cells #[.int .i64 (at_ : Int), .int .u32 (turn : Int), .map m] 62) = W0 := ⟨_, rfl⟩
  have hz0 : W0.heap.size = w.heap.size + 1 + 1 := by rw [← hW0]; simp
  have k0 : Keeps [] w W0 := by rw [← hW0]; exact ((Keeps.refl [] w).alloc _).alloc _
  have b0 : W0.heap[w.heap.size]? = some (.cells #[.pointer a] 30 (0, 0)) := by
    rw [← hW0]
    exact blk_keep (heap_alloc_new w _) ((Keeps.refl [] _).alloc _) (by simp)
  have b1 : W0.heap[w.heap.size + 1]? = some (.cells #[.int .i64 (at_ : Int), .int .u32 (turn : Int), .map m] 62 (0, 0)) := by
    rw [← hW0]
    have := heap_alloc_new (w.alloc (.cells #[.pointer a] 30)) (.cells #[.int .i64 (at_ : Int), .int .u32 (turn : Int), .map m] 62)
    rw [World.size_alloc] at this
    exact this
  obtain ⟨⟨q0, q1, q2⟩, _⟩ := three_facts b1
  have HI := Lib.hid (image_is m T at_ turn W0 (h.grow k0) ht hT hw)
  have HB0 := Lib.hid b0
  have HB1 := Lib.hid b1
  have HK0 := Lib.hid k0
  clear h b0 b1 k0 hT
  go_enter Tryz.func46, Tryz.ntmps46
  go_wp2_with fail
  refine HI.out.mono ?_
  rintro e w1 ⟨gi, ci, rfl, hgi, hM, hk1⟩
  have hil := image_len turn T
  have hne : 0 < (image turn T).length := by omega
  have h8 : 8 ≤ (image turn T).length := by omega
  have hbig : (image turn T).length ≤ 140737488351232 := by omega
  have HIL := Lib.hid hil
  clear hil HI q0 q1 q2
  have hgil := hM.lt
  generalize hxs : image turn T = xs at *
  have HXS := Lib.hid hxs
  clear hxs
  obtain ⟨W1, hW1⟩ : ∃ W1, (w1.alloc (.cells #[.slice none 0 0] 55)).setCell ⟨w1.heap.size, 0, none⟩ (.slice (some ⟨gi, 0, none⟩) xs.length ci) = W1 := ⟨_, rfl⟩
  have hz1 : W1.heap.size = w1.heap.size + 1 := by rw [← hW1]; simp
  have k1 : Keeps [] w1 W1 := by rw [← hW1]; exact ((Keeps.refl [] w1).alloc _).setCell (.inr (Nat.le_refl _)) _
  have b2 : W1.cell? ⟨w1.heap.size, 0, none⟩ = some (.slice (some ⟨gi, 0, none⟩) xs.length ci) := by
    rw [← hW1]
    exact World.cell?_setCell_same _ _ _ (u := .slice none 0 0) (by rw [World.cell?_alloc_new]; rfl)
  have HM1 := Lib.hid (hM.bytes.grow k1)
  have HC := Lib.hid (clone_any (.slice (some ⟨gi, 0, none⟩) xs.length ci) xs W1 hbig (hM.bytes.grow k1))
  have HK1 := Lib.hid (HK0.out.trans' (hk1.trans' k1))
  have HB01 := Lib.hid (blk_keep HB0.out (hk1.trans' k1) (by simp))
  have HB11 := Lib.hid (blk_keep HB1.out (hk1.trans' k1) (by simp))
  clear hM hk1 k1
  go_wp2_with fail
  refine HC.out.mono ?_
  rintro e w3 ⟨A, ch, rfl, ho, hbl⟩
  obtain ⟨gh, rfl⟩ : ∃ gh, A = some ⟨gh, 0, none⟩ := by
    rcases ho.2 with ⟨_, h0⟩ | ⟨g0, cap0, cur0, h0, _⟩
    · omega
    · injection h0 with h0
      exact ⟨g0, h0⟩
  have hk3 : Keeps [] W1 w3 := Keeps.of_below hbl
  obtain ⟨W3, hW3⟩ : ∃ W3, (w3.alloc (.cells #[.slice none 0 0] 55)).setCell ⟨w3.heap.size, 0, none⟩ (.slice (some ⟨gh, 0, none⟩) xs.length ch) = W3 := ⟨_, rfl⟩
  have hz3 : W3.heap.size = w3.heap.size + 1 := by rw [← hW3]; simp
  have k3 : Keeps [] w3 W3 := by rw [← hW3]; exact ((Keeps.refl [] w3).alloc _).setCell (.inr (Nat.le_refl _)) _
  have b3 : W3.cell? ⟨w3.heap.size, 0, none⟩ = some (.slice (some ⟨gh, 0, none⟩) xs.length ch) := by
    rw [← hW3]
    exact World.cell?_setCell_same _ _ _ (u := .slice none 0 0) (by rw [World.cell?_alloc_new]; rfl)
  have ho3 := own_keep ho k3 (by simp)
  have hby := (own_bytes ho3 rfl).1
  have hgh := (ho.lt gh rfl)
  obtain ⟨hn1, hc1, _⟩ := cap_of_bytes hby
  have hcl : ∀ ty, (Builtin.clear_ #[55] ty #[.slice (some ⟨gh, 0, none⟩) 8 ch]).run Tryz.prog W3 = .ok (.tuple #[]) (W3.setCells gh 0 (List.replicate 8 (.int .u8 0))) := fun ty =>
    Lib.run_clear_slice W3 _ _ ty _ Tryz.underlying55 Tryz.zeroValue5 rfl rfl gh 0 8 _ (by decide) (fun j hj => by
      rw [Nat.zero_add, ho3.cellAt j (by omega), List.getElem?_map, List.getElem?_eq_getElem (by omega)]
      rfl) (fun j hj => by rw [Nat.zero_add]; exact ho3.frozenAt j)
  obtain ⟨W4, hW4⟩ : ∃ W4, W3.setCells gh 0 (List.replicate 8 (.int .u8 0)) = W4 := ⟨_, rfl⟩
  rw [hW4] at hcl
  have k4 : Keeps [gh] W3 W4 := by rw [← hW4]; exact keeps_setCells _ _ (Keeps.refl _ _) (.inl (by simp))
  have hhd : BytesAt W4 (.slice (some ⟨gh, 0, none⟩) xs.length ch) (headless xs) := by rw [← hW4]; exact clear_bytes hby h8
  have HHD := Lib.hid hhd
  have HK3 := Lib.hid (hk3.trans' k3)
  have HK4 := Lib.hid k4
  have h8c : (8 : Int) ≤ (ch : Int) := by omega
  have h8n : 8 ≤ ch := by omega
  have hc0 : ¬ ch = 0 := by omega
  have hsz := hk3.size
  have hbb := HM1.out
  clear ho ho3 hby hk3 k3 k4 hbl hhd hn1 hc1 hbb HC
  go_wp2_with fail
  go_ret
  rw [HXS.out]
  have hw0 := HK0.out.size
  have hw1 := HK1.out.size
  have k5 := (Keeps.refl [] W4).alloc (.cells #[.func (.func 61) #[] #[.pointer (some ⟨w.heap.size, 0, none⟩), .pointer (some ⟨w.heap.size + 1, 0, none⟩), .pointer (some ⟨w3.heap.size, 0, none⟩)], .func (.func 63) #[] #[.pointer (some ⟨w.heap.size, 0, none⟩)], .func (.func 65) #[] #[.pointer (some ⟨w.heap.size, 0, none⟩), .pointer (some ⟨w.heap.size + 1, 0, none⟩), .pointer (some ⟨w1.heap.size, 0, none⟩)], .func (.func 66) #[] #[.pointer (some ⟨w.heap.size, 0, none⟩)]] 119)
  have hw3 := HK3.out.size
  have hw4 := HK4.out.size
  refine ⟨W4.heap.size, w.heap.size, w.heap.size + 1, w1.heap.size, w3.heap.size, gi, ci, gh, ch, rfl, ⟨?_, ?_, ?_, ?_⟩, ?_, ?_, ?_, ?_, ?_, ?_, by omega, by omega, by omega, by omega, by omega, by omega, by omega, ?_⟩
  · rw [World.cell?_alloc_new]; rfl
  · rw [World.cell?_alloc_new]; rfl
  · rw [World.cell?_alloc_new]; rfl
  · rw [World.cell?_alloc_new]; rfl
  · exact cell_of_blk (blk_keep (blk_keep (blk_keep HB01.out HK3.out (by simp)) HK4.out (by simp; omega)) k5 (by simp)) 0
  · exact cell_of_blk (blk_keep (blk_keep (blk_keep HB11.out HK3.out (by simp)) HK4.out (by simp; omega)) k5 (by simp)) 0
  · have e1 := (HK3.out.cell (lt_of_cell b2) (by simp)).trans b2
    have e2 := (HK4.out.cell (lt_of_cell e1) (by simp; omega)).trans e1
    exact (k5.cell (lt_of_cell e2) (by simp)).trans e2
  · have e2 := (HK4.out.cell (lt_of_cell b3) (by simp; omega)).trans b3
    exact (k5.cell (lt_of_cell e2) (by simp)).trans e2
  · exact ((HM1.out.grow HK3.out).keep HK4.out (fun b hb => by simp [Value.ownBlock] at hb; simp; omega)).grow k5
  · exact HHD.out.grow k5
  · exact ((HK1.out.trans' HK3.out).trans HK4.out (fun x hx => .inr (by simp at hx; omega))).alloc _

end Go.Proofs.YthgpjlmdllihmaaGreat
