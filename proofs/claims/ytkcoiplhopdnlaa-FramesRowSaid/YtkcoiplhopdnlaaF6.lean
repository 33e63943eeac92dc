/- frames: bytes.Join, by the shelf's contract; parts joined. -/
import Derived.Shelf.Bytes.SlJoin
import Derived.Test.YtkcoiplhopdnlaaF5
import Derived.Test.YtkcoiplhopdnlaaF4
namespace Go.Proofs.Ytkcoiplhopdnlaa
open Go.RowKit Go.Shelf
set_option linter.unusedVariables false

def join_ren : Go.Shelf.Ren := ⟨fun | 14 => 35 | 15 => 45 | n => n, fun | 0 => 0 | 3 => 3 | 4 => 4 | 5 => 5 | 9 => 9 | 20 => 20 | 22 => 27 | 26 => 22 | n => n, fun n => n⟩

theorem join_lays : SlLaysJ.n14 Try.prog join_ren where
  mixed := by kernel_rfl
  f14 := Try.func35.trans (congrArg some (by kernel_rfl))
  f15 := Try.func45.trans (congrArg some (by kernel_rfl))
  t0 := Try.underlying0
  a0 := Try.isAgg0
  z0 := Try.sizeOf0
  v0 := Try.zeroValue0
  t3 := Try.underlying3
  a3 := Try.isAgg3
  z3 := Try.sizeOf3
  v3 := Try.zeroValue3
  t4 := Try.underlying4
  a4 := Try.isAgg4
  z4 := Try.sizeOf4
  v4 := Try.zeroValue4
  t9 := Try.underlying9
  a9 := Try.isAgg9
  z9 := Try.sizeOf9
  v9 := Try.zeroValue9
  t20 := Try.underlying20
  a20 := Try.isAgg20
  z20 := Try.sizeOf20
  v20 := Try.zeroValue20
  t22 := Try.underlying27
  a22 := Try.isAgg27
  z22 := Try.sizeOf27
  v22 := Try.zeroValue27
  t26 := Try.underlying22
  a26 := Try.isAgg22
  z26 := Try.sizeOf22
  v26 := Try.zeroValue22
  t5 := Try.underlying5
  z5 := Try.sizeOf5
  i5 := by kernel_rfl

/-- Bytes at the head of a block of their own, which may be written. -/
structure Mine (w : World) (g c : Nat) (xs : List UInt8) : Prop where
  len : xs.length ≤ c
  cap : c ≤ maxLen
  cell : ∀ i u, xs[i]? = some u → w.cell? ⟨g, i, none⟩ = some (bv u)
  free : ∀ i, i < xs.length → w.frozen? ⟨g, i, none⟩ = false
  lt : g < w.heap.size

theorem Mine.bytes {w : World} {g c : Nat} {xs : List UInt8} (h : Mine w g c xs) : BytesAt w (.slice (some ⟨g, 0, none⟩) xs.length c) xs :=
  ⟨_, c, rfl, h.len, h.cap, fun _ => ⟨g, 0, rfl, fun i u hu => by rw [Nat.zero_add]; exact h.cell i u hu⟩⟩
theorem Mine.keep {w w' : World} {g c : Nat} {xs : List UInt8} {bs : List Nat} (h : Mine w g c xs) (hk : Keeps bs w w') (hg : g ∉ bs) : Mine w' g c xs :=
  ⟨h.len, h.cap, fun i u hu => (hk.cell h.lt hg).trans (h.cell i u hu), fun i hi => by
    have : w'.frozen? ⟨g, i, none⟩ = w.frozen? ⟨g, i, none⟩ := by unfold World.frozen?; rw [hk.block g h.lt hg]
    rw [this]; exact h.free i hi, Nat.lt_of_lt_of_le h.lt hk.size⟩

theorem mine_of_fresh {w : World} {B : Nat} {v : Value} {l : List UInt8} (h : Lib.FreshBytes B w v l) (hl : 0 < l.length) : ∃ g c, v = .slice (some ⟨g, 0, none⟩) l.length c ∧ B ≤ g ∧ Mine w g c l := by
  obtain ⟨g, cap, zs, rfl, hB, h1, h2, hz, hr, hb, hc, hf⟩ := h
  refine ⟨g, cap, rfl, hB, h1, h2, fun i u hu => ?_, fun i hi => hf i (by omega), lt_of_cell (hc 0 (by omega))⟩
  have hi : i < l.length := (List.getElem?_eq_some_iff.1 hu).1
  have hiz : i < zs.length := by omega
  rw [hc i (by omega)]
  have e : zs.getD i 0 = zs[i] := by simp [List.getD, List.getElem?_eq_getElem hiz]
  have hub := hr zs[i] (List.getElem_mem _)
  have : u = UInt8.ofNat zs[i].toNat := by
    rw [← hb] at hu
    simp only [Lib.bytesOf, List.getElem?_map, List.getElem?_take, if_pos hi, List.getElem?_eq_getElem hiz, Option.map_some, Option.some.injEq] at hu
    exact hu.symm
  rw [e, this]
  unfold bv
  rw [UInt8.toNat_ofNat']
  congr 2
  omega

theorem join_four (b o c : Nat) (vs : List Value) (ls : List (List UInt8)) (w : World) (h4 : ls.length = 4) (hc : 4 ≤ c) (hP : Lib.PartsAt w ⟨b, o, none⟩ vs ls) (hl : Lib.lens ls ≤ 140737488355328) :
    Calls Try.prog 35 #[.slice (some ⟨b, o, none⟩) 4 c, .slice none 0 0] w fun e w' => ∃ v', e = .returned v' ∧ Lib.FreshBytes w.heap.size w' v' ls.flatten ∧ Below w.heap.size w w' := by
  have h := Any.bytes_Join_many join_lays b o 4 c vs ls (.slice none 0 0) [] w h4 (by decide) hP hc ⟨none, 0, rfl, fun _ => rfl, fun a ha => by cases ha⟩ (by decide) (by simpa using hl)
  refine h.mono ?_
  rintro e w' ⟨v', h1, h2, h3⟩
  have : Lib.join ls [] = ls.flatten := by
    cases ls with
    | nil => cases h4
    | cons x r => rw [Lib.join_cons]; simp [Lib.joinTail]
  rw [this] at h2
  exact ⟨v', h1, h2, h3⟩

theorem holds_of_bytes {w : World} {A : Option Addr} {n c : Nat} {xs : List UInt8} (h : BytesAt w (.slice A n c) xs) : Lib.HoldsBytes w (.slice A n c) xs := by
  have hs := Src.of_bytes h
  obtain ⟨A', c', he, h1, h2, h3⟩ := h
  injection he with e1 e2 e3
  subst e1 e2 e3
  exact ⟨A, c, rfl, fun ha => List.eq_nil_of_length_eq_zero (hs.1 ha), fun a ha i x hx => hs.2 a ha i _ (by rw [List.getElem?_map, hx]; rfl)⟩

/-- Four parts in a row of their own. -/
theorem parts_four {w : World} {v1 v2 v3 v4 : Value} {l1 l2 l3 l4 : List UInt8} (h1 : Lib.HoldsBytes w v1 l1) (h2 : Lib.HoldsBytes w v2 l2) (h3 : Lib.HoldsBytes w v3 l3) (h4 : Lib.HoldsBytes w v4 l4) {t : TypeId} :
    Lib.PartsAt (w.alloc (.cells #[v1, v2, v3, v4] t)) ⟨w.heap.size, 0, none⟩ [v1, v2, v3, v4] [l1, l2, l3, l4] := by
  have up : ∀ {v l}, Lib.HoldsBytes w v l → Lib.HoldsBytes (w.alloc (.cells #[v1, v2, v3, v4] t)) v l := by
    rintro v l ⟨p, c, e1, e2, e3⟩
    exact ⟨p, c, e1, e2, fun a ha i x hx => by rw [World.cell?_alloc_lt _ _ _ (lt_of_cell (e3 a ha i x hx))]; exact e3 a ha i x hx⟩
  refine ⟨rfl, fun i v hv => ?_, fun i v l hv hl => ?_⟩
  · rw [add_at, Nat.zero_add, World.cell?_alloc_new]
    simpa using hv
  · match i with
    | 0 => simp at hv hl; subst hv hl; exact up h1
    | 1 => simp at hv hl; subst hv hl; exact up h2
    | 2 => simp at hv hl; subst hv hl; exact up h3
    | 3 => simp at hv hl; subst hv hl; exact up h4
    | i + 4 => simp at hv

theorem joined_four (b o c : Nat) (vs : List Value) (ls : List (List UInt8)) (w : World) (h4 : ls.length = 4) (hc : 4 ≤ c) (hcm : c ≤ 9223372036854775807) (hP : Lib.PartsAt w ⟨b, o, none⟩ vs ls) (hl : Lib.lens ls ≤ 140737488355328) :
    Calls Try.prog 23 #[.slice (some ⟨b, o, none⟩) 4 c] w fun e w' => ∃ v', e = .returned v' ∧ Lib.FreshBytes w.heap.size w' v' ls.flatten ∧ Below w.heap.size w w' := by
  have J := join_four b o c vs ls w h4 hc hP hl
  have J2 := Lib.hid J
  clear J hP
  go_enter Try.func23, Try.ntmps23
  go_wp2_with fail
  refine J2.out.mono ?_
  rintro e w1 ⟨v', rfl, h2, h3⟩
  have H2 := Lib.hid h2
  have H3 := Lib.hid h3
  clear h2 h3
  go_wp2_with fail
  go_ret
  exact ⟨_, rfl, H2.out, H3.out⟩

theorem frameOf_flat (xs : List UInt8) (h h' s : Nat) (hh : h = xs.length + 1) (hh' : h' = 4294967295 - h) (hs : s = crcSum xs) : [four h, four h', xs, four s].flatten = frameOf xs := by
  subst hh hh' hs
  simp [frameOf]

theorem framed_is (A : Option Addr) (n c h : Nat) (xs : List UInt8) (w : World) (hn : xs.length = n) (hb : BytesAt w (.slice A n c) xs) (hm : n ≤ 32768) (hh : h = n + 1) :
    Calls Try.prog 13 #[.slice A n c, .int .u32 (h : Int)] w fun e w' => ∃ g cp, e = .returned (.slice (some ⟨g, 0, none⟩) (n + 12) cp) ∧ w.heap.size ≤ g ∧ Mine w' g cp (frameOf xs) ∧ Keeps [] w w' := by
  have hl : h < 4294967296 := by omega
  have hn2 : n ≤ 9223372036854775807 := by omega
  have HF := Lib.hid (frameOf_flat xs h (4294967295 - h) (crcSum xs) (by omega) rfl rfl)
  have hsl := crcSum_lt xs
  obtain ⟨W1, hW1⟩ : ∃ W1, w.alloc (.cells ((four h).map bv).toArray 5) = W1 := ⟨_, rfl⟩
  have z1 : W1.heap.size = w.heap.size + 1 := by rw [← hW1]; simp
  have k1 : Keeps [] w W1 := by rw [← hW1]; exact (Keeps.refl [] w).alloc _
  have b1 : BytesAt W1 (.slice (some ⟨w.heap.size, 0, none⟩) 4 4) (four h) := by rw [← hW1]; exact row_at w (four h) (0, 0) (by simp [four_len])
  obtain ⟨W2, hW2⟩ : ∃ W2, W1.alloc (.cells ((four (4294967295 - h)).map bv).toArray 5) = W2 := ⟨_, rfl⟩
  have z2 : W2.heap.size = W1.heap.size + 1 := by rw [← hW2]; simp
  have k2 : Keeps [] W1 W2 := by rw [← hW2]; exact (Keeps.refl [] W1).alloc _
  have b2 : BytesAt W2 (.slice (some ⟨W1.heap.size, 0, none⟩) 4 4) (four (4294967295 - h)) := by rw [← hW2]; exact row_at W1 (four (4294967295 - h)) (0, 0) (by simp [four_len])
  obtain ⟨W3, hW3⟩ : ∃ W3, W2.alloc (.cells #[.slice A n c] 27) = W3 := ⟨_, rfl⟩
  have k3 : Keeps [] W2 W3 := by rw [← hW3]; exact (Keeps.refl [] W2).alloc _
  have P1 := one_part (bs := xs) (A := A) (c := c) (by rw [hn]; exact hb.grow (k1.trans' k2)) (by omega)
  rw [hn, hW3] at P1
  have SU := csum _ 1 1 _ _ P1 (by decide) trivial
  rw [show (List.flatMap (fun x : Part => x.bs) [⟨A, c, xs⟩]) = xs by simp] at SU
  rw [z2, z1] at SU
  rw [z1] at b2
  have HSU := Lib.hid SU
  have HB := Lib.hid hb
  have HN := Lib.hid hn
  have h1l := four_len h
  have h2l := four_len (4294967295 - h)
  have T := turned_of h W1 hl
  have B1 := bytes_head h w hl
  rw [hW1] at B1
  have B2 := bytes_head (4294967295 - h) W1 (by omega)
  rw [hW2] at B2
  have HC1 := Lib.hid B1
  have HC2 := Lib.hid B2
  have HT := Lib.hid T
  have HK := Lib.hid (k1.trans' (k2.trans' k3))
  have HB1 := Lib.hid (b1.grow (k2.trans' k3))
  have HB2 := Lib.hid (b2.grow k3)
  clear hb SU P1 b1 b2 k1 k2 k3 B1 B2 T hh
  generalize four (4294967295 - h) = f2 at *
  generalize four h = f1 at *
  generalize 4294967295 - h = h' at *
  generalize crcSum xs = s at *
  go_enter Try.func13, Try.ntmps13
  go_wp2_with fail
  refine HC1.out.mono ?_
  rintro e w1 ⟨rfl, rfl⟩
  go_wp2_with fail
  refine HT.out.mono ?_
  rintro e w1 ⟨rfl, rfl⟩
  go_wp2_with fail
  refine HC2.out.mono ?_
  rintro e w1 ⟨rfl, rfl⟩
  go_wp2_with fail
  refine HSU.out.mono ?_
  rintro e W4 ⟨rfl, hk4⟩
  have HK4 := Lib.hid hk4
  clear hk4 HSU
  go_wp2_with fail
  refine (bytes_u32 s W4 hsl).mono ?_
  rintro e w1 ⟨rfl, rfl⟩
  obtain ⟨W5, hW5⟩ : ∃ W5, W4.alloc (.cells ((four s).map bv).toArray 5) = W5 := ⟨_, rfl⟩
  have z5 : W5.heap.size = W4.heap.size + 1 := by rw [← hW5]; simp
  have k5 : Keeps [] W4 W5 := by rw [← hW5]; exact (Keeps.refl [] W4).alloc _
  have b5 : BytesAt W5 (.slice (some ⟨W4.heap.size, 0, none⟩) 4 4) (four s) := by rw [← hW5]; exact row_at W4 (four s) (0, 0) (by simp [four_len])
  have hk45 := HK4.out.trans' k5
  have PF := parts_four (holds_of_bytes (HB1.out.grow hk45)) (holds_of_bytes (HB2.out.grow hk45)) (holds_of_bytes (HB.out.grow (HK.out.trans' hk45))) (holds_of_bytes b5) (t := 27)
  have HLN : Lib.lens [f1, f2, xs, four s] = n + 12 := by
    have := HN.out
    simp [Lib.lens, h1l, h2l, four_len, this]
    omega
  have JF0 := joined_four _ _ 4 _ _ _ rfl (Nat.le_refl _) (by omega) PF (by rw [HLN]; omega)
  rw [z5] at JF0
  have JF := Lib.hid JF0
  clear JF0
  have HKE : Hid (Keeps [] w (W5.alloc (.cells #[.slice (some ⟨w.heap.size, 0, none⟩) 4 4, .slice (some ⟨w.heap.size + 1, 0, none⟩) 4 4, .slice A n c, .slice (some ⟨W4.heap.size, 0, none⟩) 4 4] 27))) := (HK.out.trans' hk45).alloc _
  clear PF hk45 k5 b5
  go_wp2_with fail
  refine JF.out.mono ?_
  rintro e w1 ⟨v', rfl, h2, h3⟩
  rw [HF.out] at h2
  obtain ⟨g, cp, rfl, hg, hM⟩ := mine_of_fresh h2 (by rw [frameOf_len]; omega)
  rw [frameOf_len, hn]
  have HM := Lib.hid hM
  have HG := Lib.hid hg
  have HE : Hid (Keeps [] w w1) := HKE.out.trans' (Keeps.of_below h3)
  have hks := HKE.out.size
  clear h2 h3 hM hg
  go_wp2_with fail
  go_ret
  exact ⟨g, cp, rfl, Nat.le_trans hks HG.out, HM.out, HE.out⟩

theorem frame_ok (A : Option Addr) (n c : Nat) (xs : List UInt8) (w : World) (hn : xs.length = n) (hb : BytesAt w (.slice A n c) xs) (hm : n ≤ 32768) :
    Calls Try.prog 6 #[.slice A n c] w fun e w' => ∃ g cp, e = .returned (.tuple #[.slice (some ⟨g, 0, none⟩) (n + 12) cp, .int .i64 0]) ∧ w.heap.size ≤ g ∧ Mine w' g cp (frameOf xs) ∧ Keeps [] w w' := by
  have HF := Lib.hid (framed_is A n c (n + 1) xs w hn hb hm rfl)
  clear hb
  go_enter Try.func6, Try.ntmps6
  go_wp2
  refine wp_scope_once 0 rfl ?_
  go_wp2_with fail
  refine (head_of A n c w hm).mono ?_
  rintro e w' ⟨rfl, rfl⟩
  go_wp2_with fail
  refine HF.out.mono ?_
  rintro e w1 ⟨g, cp, rfl, h1, h2, h3⟩
  have H1 := Lib.hid h1
  have H2 := Lib.hid h2
  have H3 := Lib.hid h3
  clear h1 h2 h3 HF
  go_wp2
  simp only [Exit.jump]
  refine bodyPost_ret (results_tmp2 rfl _ _ _) rfl ?_
  exact ⟨g, cp, rfl, H1.out, H2.out, H3.out⟩

theorem frame_long (A : Option Addr) (n c : Nat) (w : World) (hm : 32768 < n) (h2 : n ≤ 9223372036854775807) :
    Calls Try.prog 6 #[.slice A n c] w fun e w' => e = .returned (.tuple #[.slice none 0 0, .int .i64 3]) ∧ w = w' := by
  go_enter Try.func6, Try.ntmps6
  go_wp2
  refine wp_scope_once 0 rfl ?_
  go_wp2_with fail
  go_step3
  refine ⟨rfl, ?_⟩
  go_wp2
  rw [Exit.noGoto_ret]
  refine bodyPost_ret (results_tmp2 rfl _ _ _) rfl ?_
  exact ⟨rfl, rfl⟩

theorem size_ok (A : Option Addr) (n c : Nat) (w : World) (hm : n ≤ 32768) : Calls Try.prog 8 #[.slice A n c] w fun e w' => e = .returned (.int .i64 ((n + 12 : Nat) : Int)) ∧ w = w' := by
  have HS := Lib.hid (frame_size (n + 1) w (by omega) (by omega))
  go_enter Try.func8, Try.ntmps8
  go_wp2
  refine wp_scope_once 0 rfl ?_
  go_wp2_with fail
  refine (head_of A n c w hm).mono ?_
  rintro e w' ⟨rfl, rfl⟩
  go_wp2_with fail
  refine HS.out.mono ?_
  rintro e w' ⟨rfl, rfl⟩
  go_wp2
  simp only [Exit.jump]
  go_ret
  exact ⟨rfl, rfl⟩

theorem size_long (A : Option Addr) (n c : Nat) (w : World) (hm : 32768 < n) (h2 : n ≤ 9223372036854775807) : Calls Try.prog 8 #[.slice A n c] w fun e w' => e = .returned (.int .i64 0) ∧ w = w' := by
  go_enter Try.func8, Try.ntmps8
  go_wp2
  refine wp_scope_once 0 rfl ?_
  go_wp2_with fail
  go_step3
  refine ⟨rfl, ?_⟩
  go_wp2
  rw [Exit.noGoto_ret]
  go_ret
  exact ⟨rfl, rfl⟩

end Go.Proofs.Ytkcoiplhopdnlaa
