/- The statements' own example of frames. -/
import Derived.Test.YtkcoiplhopdnlaaF13
import Derived.Test.YtkcoiplhopdnlaaF12
namespace Go.Proofs.Ytkcoiplhopdnlaa
open Go.RowKit
set_option linter.unusedVariables false

theorem conv_bytes {w : World} {v : Value} {xs : List UInt8} (h : BytesAt w v xs) : (convert 27 9 v).run Try.prog w = .ok (.string ⟨xs.toArray⟩) w := by
  have h0 := h
  obtain ⟨A, c, rfl, h1, h2, h3⟩ := h
  rcases A with _ | a
  · have hx : xs = [] := by
      rcases Nat.eq_zero_or_pos xs.length with h | h
      · exact List.eq_nil_of_length_eq_zero h
      · obtain ⟨_, _, h, _⟩ := h3 h; cases h
    subst hx
    exact run_convert_bytes_nil w 27 5 Try.underlying27 Try.underlying5 _ _ 9 Try.underlying9
  · refine run_convert_bytes_back w 27 9 5 a c xs Try.underlying27 Try.underlying5 Try.underlying9 fun j hj => ?_
    exact h0.cells j _ (by simp [List.getElem?_eq_getElem hj, bv])

theorem frame_a : frameOf [97] = [2, 0, 0, 0, 253, 255, 255, 255, 97, 67, 190, 183, 232] := by decide +kernel

theorem known3_any (w : World) : Calls Try.prog 5 #[] w fun e w' => e = .returned (.bool true) ∧ Keeps [] w w' := by
  have cv := fun C n c => Lib.run_convert_bytes_const w 27 5 C n c Try.underlying27 Try.underlying5
  obtain ⟨iu, hiu, hzu0, hzu1, hzu2⟩ := info_parts u8_of
  have hff := frameOf_framed (r := [97]) (by decide) [120]
  have hfr := frameOf_rec (r := [97]) (by decide) [120]
  have HFA : Hid (fstR (frameOf [97] ++ [120]) = [97] ∧ fstN (frameOf [97] ++ [120]) = 13 ∧ framed (frameOf [97] ++ [120]) = true) := ⟨by simp [fstR, hff, hfr], by simp [fstN, hff, hfr], hff⟩
  have HFR : Hid (frameOf [97] = [2, 0, 0, 0, 253, 255, 255, 255, 97, 67, 190, 183, 232]) := frame_a
  have hl13 : (frameOf [97]).length = 13 := by rw [frameOf_len]; rfl
  clear hff hfr
  have e97 : (List.map bv [97]).toArray = #[.int .u8 97] := by simp [bv]
  have F00 := frame_ok (some ⟨w.heap.size, 0, none⟩) 1 1 [97] _ rfl (row_at w [97] (1, 2) (by decide)) (by decide)
  rw [e97] at F00
  have F0 := Lib.hid F00
  clear F00 e97
  generalize frameOf [97] = fr at *
  go_enter Try.func5, Try.ntmps5
  go_wp2_with fail
  refine F0.out.mono ?_
  rintro e w1 ⟨g, cp, rfl, hg, hM, hk1⟩
  rw [show 1 + 12 = 13 from rfl]
  have HM := Lib.hid hM
  have HK1 : Hid (Keeps [] w w1) := ((Keeps.refl [] w).alloc _).trans' hk1
  rw [World.size_alloc] at hg
  have hz1 := HK1.out.size
  have hgl := hM.lt
  have S1 := Lib.hid (Src.of_bytes (by have := hM.bytes; rw [hl13] at this; exact this))
  clear hM hk1 F0 cv
  have e120 : (List.map bv [120]).toArray = #[.int .u8 120] := by simp [bv]
  go_wp2_with (first
    | (at_builtin; refine wpList_append_opt rfl (.const (.slice none 0 0)) (.tmp 13) 27 rfl w1.heap.size 5 iu _ 1 1 Try.underlying27 hiu hzu0 hzu1 hzu2 rfl (by decide) (.slice none 0 0) 0 [] rfl (World.ownsRow_nil _ _ _ _) (some ⟨g, 0, none⟩) 13 cp (fr.map bv) rfl (by simp [hl13]) S1.out bvs_one (by unfold maxLen; omega) (by omega) (Nat.le_refl _) ?_; intro v2 w2 ho2 hg2 hs2; rw [Nat.zero_add, List.nil_append] at ho2; obtain ⟨A2, c2, hv2⟩ := own_slice ho2; subst hv2; have HO2 := Lib.hid ho2; have k2 : Keeps [] w1 w2 := Keeps.of_grown hg2 (by simp [Value.ownBlock]); have HK2 := Lib.hid k2; have S2 : Hid (Src (w2.alloc (.cells #[.int .u8 120] 5)) (some ⟨w2.heap.size, 0, none⟩) 1 ([120].map bv)) := (by have h := Src.of_bytes (row_at w2 [120] (0, 0) (by decide)); rw [e120] at h; exact h); have hz2 := k2.size; clear ho2 hg2 hs2 k2)
    | (at_builtin; refine wpList_append_opt rfl (.tmp 14) (.tmp 15) 27 rfl w1.heap.size 5 iu _ 1 1 Try.underlying27 hiu hzu0 hzu1 hzu2 rfl (by decide) (.slice A2 13 c2) 13 (fr.map bv) rfl (HO2.out.alloc _) (some ⟨w2.heap.size, 0, none⟩) 1 1 ([120].map bv) rfl rfl S2.out bvs_one (by unfold maxLen; omega) (by omega) (by simp; omega) ?_; intro v3 w3 ho3 hg3 hs3; rw [← List.map_append] at ho3; obtain ⟨A3, c3, hv3⟩ := own_slice ho3; subst hv3; have HO3 := Lib.hid ho3; have HG3 := Lib.hid hg3; clear ho3 hg3 hs3))
  have hA2 : ∀ x ∈ (Value.slice A2 13 c2).ownBlock.toList, w1.heap.size ≤ x := fun x hx => (HO2.out.lt x (by simpa using hx)).1
  have k23 : Keeps (Value.slice A2 13 c2).ownBlock.toList w1 w3 := (((HK2.out.mono (cs := (Value.slice A2 13 c2).ownBlock.toList) (by simp)).alloc _)).trans' (Keeps.of_grown HG3.out (fun x hx => .inl (by simp [hx])))
  have HK3 : Hid (Keeps [] w w3) := HK1.out.trans k23 (fun x hx => .inr (by have := hA2 x hx; omega))
  have hl14 : (fr ++ [120]).length = 14 := by simp [hl13]
  have hbf := (own_bytes HO3.out hl14).1
  have HF := Lib.hid (first_is A3 14 c3 (fr ++ [120]) w3 hl14 hbf)
  have HMB : Hid (BytesAt w3 (.slice (some ⟨g, 0, none⟩) 13 cp) fr) := by
    have h := HM.out.bytes.keep k23 (fun b hb hm => by
      have := hA2 b hm
      simp only [Value.ownBlock, Option.some.injEq] at hb
      omega)
    rw [hl13] at h
    exact h
  rw [HFA.out.1, HFA.out.2.1, HFA.out.2.2] at HF
  clear hbf k23 hA2 HO3 HG3 S2 e120
  refine HF.out.mono ?_
  rintro e w4 ⟨B, d, rfl, hb4, _, hk4⟩
  have v1 := conv_bytes (HMB.out.grow hk4)
  have v2 : (convert 27 9 (.slice B 1 d)).run Try.prog w4 = .ok (.string ⟨#[97]⟩) w4 := conv_bytes hb4
  rw [HFR.out] at v1
  have HK4 := Lib.hid (HK3.out.trans' hk4)
  clear HF hk4 hb4
  go_wp2_with fail
  go_ret
  exact ⟨rfl, HK4.out⟩

end Go.Proofs.Ytkcoiplhopdnlaa
