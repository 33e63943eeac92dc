/- The document's Frame. -/
import Derived.Test.YtkcoiplhopdnlaaF10
import Derived.Test.YtkcoiplhopdnlaaK7
namespace Go.Proofs.Ytkcoiplhopdnlaa
open Go.RowKit
set_option linter.unusedVariables false

theorem own_four (w : World) (h : Nat) : (w.alloc (.cells ((four h).map bv).toArray 5)).ownsRow w.heap.size 5 1 (.slice (some ⟨w.heap.size, 0, none⟩) 4 4) 4 ((four h).map bv) :=
  ⟨by simp [four_len], .inr ⟨w.heap.size, 4, ((four h).map bv).toArray, rfl, Nat.le_refl _, heap_alloc_new' w _, Nat.le_refl _, by unfold maxLen; omega, by simp [four_len], List.take_of_length_le (by simp [four_len])⟩⟩

theorem grown_own {w w' : World} {base : Nat} {e : TypeId} {k n : Nat} {v : Value} {xs : List Value} (h : w.ownsRow base e k v n xs) (hg : w.grownBy w' v.ownBlock) : Keeps v.ownBlock.toList w w' := Keeps.of_grown hg (fun x hx => .inl (by simp [hx]))

theorem keeps_own {w a b : World} {e : TypeId} {k n : Nat} {v : Value} {xs : List Value} (h : a.ownsRow w.heap.size e k v n xs) (hk : Keeps [] w a) (hg : a.grownBy b v.ownBlock) : Keeps [] w b :=
  hk.trans (grown_own h hg) (fun x hx => .inr (h.lt x (by simpa using hx)).1)

theorem rframe (A : Option Addr) (n c : Nat) (xs : List UInt8) (w : World) (hn : xs.length = n) (hb : BytesAt w (.slice A n c) xs) (hm : n ≤ 32768) : Calls Try.prog 7 #[.slice A n c] w fun e w' => ∃ B d, e = .returned (.slice B (n + 12) d) ∧ w'.ownsRow w.heap.size 5 1 (.slice B (n + 12) d) (n + 12) ((frameOf xs).map bv) ∧ Keeps [] w w' := by
  obtain ⟨iu, hiu, hzu0, hzu1, hzu2⟩ := info_parts u8_of
  have HB := Lib.hid hb
  have HN := Lib.hid hn
  have hsl := crcSum_lt xs
  have HS := Lib.hid (fun w1 hk => refsum2 A n c xs w1 hn (hb.grow hk) (by omega))
  obtain ⟨h, hh⟩ : ∃ h, h = n + 1 := ⟨_, rfl⟩
  have hl : h < 4294967296 := by omega
  have HH := Lib.hid hh
  have HFL : Hid (((four h).map bv ++ (four (4294967295 - h)).map bv) ++ xs.map bv ++ (four (crcSum xs)).map bv = (frameOf xs).map bv) := by
    show _ = _
    rw [hh, ← hn]
    simp [frameOf]
  clear hb hn hh
  go_enter Try.func7, Try.ntmps7
  go_wp2_with fail
  rw [show ((n : Int) + 1) = (h : Int) by have := HH.out; omega]
  refine (rfour h w hl).mono ?_
  rintro e w1 ⟨rfl, rfl⟩
  go_wp2_with fail
  rw [show (4294967295 : Int) - (h : Int) = ((4294967295 - h : Nat) : Int) by omega]
  refine (rfour (4294967295 - h) _ (by omega)).mono ?_
  rintro e w1 ⟨rfl, rfl⟩
  rw [World.size_alloc]
  have o1 := Lib.hid ((own_four w h).alloc (.cells ((four (4294967295 - h)).map bv).toArray 5))
  have s1 : Hid (Src ((w.alloc (.cells ((four h).map bv).toArray 5)).alloc (.cells ((four (4294967295 - h)).map bv).toArray 5)) (some ⟨w.heap.size + 1, 0, none⟩) 4 ((four (4294967295 - h)).map bv)) := by
    have := Src.of_bytes (row_at (w.alloc (.cells ((four h).map bv).toArray 5)) (four (4294967295 - h)) (0, 0) (by simp [four_len]))
    rw [World.size_alloc] at this
    exact this
  have k1 : Keeps [] w ((w.alloc (.cells ((four h).map bv).toArray 5)).alloc (.cells ((four (4294967295 - h)).map bv).toArray 5)) := ((Keeps.refl [] w).alloc _).alloc _
  generalize (w.alloc (.cells ((four h).map bv).toArray 5)).alloc (.cells ((four (4294967295 - h)).map bv).toArray 5) = W2 at *
  have K1 := Lib.hid k1
  have z1 := k1.size
  have l1 : ((four h).map bv).length = 4 := by simp [four_len]
  have l2 : ((four (4294967295 - h)).map bv).length = 4 := by simp [four_len]
  have q2 : ∀ u ∈ (four (4294967295 - h)).map bv, u.oneCell' = true := bvs_one
  have HQ2 := Lib.hid q2
  have lx : (xs.map bv).length = n := by simp [HN.out]
  clear k1 q2
  generalize (four (4294967295 - h)).map bv = f2 at *
  generalize (four h).map bv = f1 at *
  go_wp2_with (first
    | (at_builtin; refine wpList_append_opt rfl (.tmp 10) (.tmp 13) 27 rfl w.heap.size 5 iu _ 1 1 Try.underlying27 hiu hzu0 hzu1 hzu2 rfl (by decide) (.slice (some ⟨w.heap.size, 0, none⟩) 4 4) 4 f1 rfl o1.out (some ⟨w.heap.size + 1, 0, none⟩) 4 4 f2 rfl (by simp [l2]) s1.out HQ2.out (by unfold maxLen; omega) (by omega) z1 ?_; intro v3 w3 ho3 hg3 hs3; obtain ⟨A3, c3, hv3⟩ := own_slice ho3; subst hv3; have HO3 := Lib.hid ho3; have K3 := Lib.hid (keeps_own o1.out K1.out hg3); have z3 := K3.out.size; clear ho3 hg3 hs3)
    | (at_builtin; refine wpList_append_opt rfl (.tmp 15) (.tmp 16) 27 rfl w.heap.size 5 iu _ 1 1 Try.underlying27 hiu hzu0 hzu1 hzu2 rfl (by decide) (.slice A3 (4 + 4) c3) (4 + 4) (f1 ++ f2) rfl HO3.out A n c (xs.map bv) rfl (by simp [lx]) (Src.of_bytes (HB.out.grow K3.out)) bvs_one (by unfold maxLen; omega) (by omega) z3 ?_; intro v4 w4 ho4 hg4 hs4; obtain ⟨A4, c4, hv4⟩ := own_slice ho4; subst hv4; have HO4 := Lib.hid ho4; have K4 := Lib.hid (keeps_own HO3.out K3.out hg4); have z4 := K4.out.size; clear ho4 hg4 hs4))
  refine (HS.out w4 K4.out).mono ?_
  rintro e w5 ⟨rfl, rfl⟩
  generalize crcSum xs = s at *
  go_wp2_with fail
  refine (rfour s w4 hsl).mono ?_
  rintro e w5 ⟨rfl, rfl⟩
  have o5 := Lib.hid (HO4.out.alloc (.cells ((four s).map bv).toArray 5))
  have s5 : Hid (Src (w4.alloc (.cells ((four s).map bv).toArray 5)) (some ⟨w4.heap.size, 0, none⟩) 4 ((four s).map bv)) := Src.of_bytes (row_at w4 (four s) (0, 0) (by simp [four_len]))
  have k5 : Keeps [] w (w4.alloc (.cells ((four s).map bv).toArray 5)) := K4.out.alloc _
  generalize w4.alloc (.cells ((four s).map bv).toArray 5) = W5 at *
  have K5 := Lib.hid k5
  have z5 := k5.size
  have l5 : ((four s).map bv).length = 4 := by simp [four_len]
  have q5 : ∀ u ∈ (four s).map bv, u.oneCell' = true := bvs_one
  have HQ5 := Lib.hid q5
  clear k5 q5
  generalize (four s).map bv = f5 at *
  go_wp2_with (at_builtin; refine wpList_append_opt rfl (.tmp 18) (.tmp 21) 27 rfl w.heap.size 5 iu _ 1 1 Try.underlying27 hiu hzu0 hzu1 hzu2 rfl (by decide) (.slice A4 (4 + 4 + n) c4) (4 + 4 + n) (f1 ++ f2 ++ xs.map bv) rfl o5.out (some ⟨w4.heap.size, 0, none⟩) 4 4 f5 rfl (by simp [l5]) s5.out HQ5.out (by unfold maxLen; omega) (by omega) z5 ?_; intro v6 w6 ho6 hg6 hs6; obtain ⟨A6, c6, hv6⟩ := own_slice ho6; subst hv6; have HO6 := Lib.hid ho6; have K6 := Lib.hid (keeps_own o5.out K5.out hg6); clear ho6 hg6 hs6)
  have ho := HO6.out
  rw [show 4 + 4 + n + 4 = n + 12 by omega, HFL.out] at ho
  have HO := Lib.hid ho
  clear ho HO6
  go_ret
  exact ⟨A6, c6, congrArg (fun k => Ending.returned (.slice A6 k c6)) (show 8 + n + 4 = n + 12 by omega), HO.out, K6.out⟩

end Go.Proofs.Ytkcoiplhopdnlaa
