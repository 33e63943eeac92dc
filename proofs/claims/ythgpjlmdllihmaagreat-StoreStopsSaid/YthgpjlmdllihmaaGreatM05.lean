/- Texts of one proof, laid together: F6 F7. -/
import Derived.Shelf.Bytes.SlJoin
import Derived.Test.YthgpjlmdllihmaaGreatM04
import Derived.RangeFuncNested
import Derived.RangeFuncBound
import Derived.RangeFuncCalls
import Derived.RangeFuncLeaves
import Derived.Shelf.Abstract
import Derived.Shelf.RegionOpen
import Derived.OwnWalkIn
import Derived.TacticsInMore
import Derived.LoopNIn
import Derived.LoopIn
/- frames: bytes.Join, by the shelf's contract; parts joined. -/
namespace Go.Proofs.YthgpjlmdllihmaaGreat
open Go.RowKit Go.Shelf
set_option linter.unusedVariables false

def join_ren : Go.Shelf.Ren := ⟨fun | 14 => 78 | 15 => 93 | n => n, fun | 0 => 0 | 3 => 3 | 4 => 4 | 5 => 5 | 9 => 9 | 20 => 20 | 22 => 55 | 26 => 135 | n => n, fun n => n⟩

theorem join_lays : SlLaysJ.n14 Tryz.prog join_ren where
  mixed := by kernel_rfl
  f14 := Tryz.func78.trans (congrArg some (by kernel_rfl))
  f15 := Tryz.func93.trans (congrArg some (by kernel_rfl))
  t0 := Tryz.underlying0
  a0 := Tryz.isAgg0
  z0 := Tryz.sizeOf0
  v0 := Tryz.zeroValue0
  t3 := Tryz.underlying3
  a3 := Tryz.isAgg3
  z3 := Tryz.sizeOf3
  v3 := Tryz.zeroValue3
  t4 := Tryz.underlying4
  a4 := Tryz.isAgg4
  z4 := Tryz.sizeOf4
  v4 := Tryz.zeroValue4
  t9 := Tryz.underlying9
  a9 := Tryz.isAgg9
  z9 := Tryz.sizeOf9
  v9 := Tryz.zeroValue9
  t20 := Tryz.underlying20
  a20 := Tryz.isAgg20
  z20 := Tryz.sizeOf20
  v20 := Tryz.zeroValue20
  t22 := Tryz.underlying55
  a22 := Tryz.isAgg55
  z22 := Tryz.sizeOf55
  v22 := Tryz.zeroValue55
  t26 := Tryz.underlying135
  a26 := Tryz.isAgg135
  z26 := Tryz.sizeOf135
  v26 := Tryz.zeroValue135
  t5 := Tryz.underlying5
  z5 := Tryz.sizeOf5
  i5 := by kernel_rfl

/-- Bytes at the head of a block of their own, which may be written. -/
structure Mine (w : World) (g c : Nat) (xs : List UInt8) : Prop where
  len : xs.length ≤ c
  cap : c ≤ maxLen
  cell : ∀ i u, xs[i]? = some u → w.cell? ⟨g, i, none⟩ = some (bv u)
  free : ∀ i, i < xs.length → w.frozen? ⟨g, i, none⟩ = false
  lt : g < w.heap.size

theorem Mine.bytes {w : World} {g c : Nat} {xs : List UInt8} (h : Mine w g c xs) : BytesAt w (.slice (some ⟨g, 0, none⟩) xs.length c) xs :=
  ⟨_, c, rfl, h.len, h.cap, fun _ => ⟨g, 0, rfl, fun i u hu => by rw [Nat.zero_add]; exact h.cell i u hu⟩⟩
theorem Mine.keep {w w' : World} {g c : Nat} {xs : List UInt8} {bs : List Nat} (h : Mine w g c xs) (hk : Keeps bs w w') (hg : g ∉ bs) : Mine w' g c xs :=
  ⟨h.len, h.cap, fun i u hu => (hk.cell h.lt hg).trans (h.cell i u hu), fun i hi => by
    have : w'.frozen? ⟨g, i, none⟩ = w.frozen? ⟨g, i, none⟩ := by unfold World.frozen?; rw [hk.block g h.lt hg]
    rw [this]; exact h.free i hi, Nat.lt_of_lt_of_le h.lt hk.size⟩

theorem mine_of_fresh {w : World} {B : Nat} {v : Value} {l : List UInt8} (h : Lib.FreshBytes B w v l) (hl : 0 < l.length) : ∃ g c, v = .slice (some ⟨g, 0, none⟩) l.length c ∧ B ≤ g ∧ Mine w g c l := by
  obtain ⟨g, cap, zs, rfl, hB, h1, h2, hz, hr, hb, hc, hf⟩ := h
  refine ⟨g, cap, rfl, hB, h1, h2, fun i u hu => ?_, fun i hi => hf i (by omega), lt_of_cell (hc 0 (by omega))⟩
  have hi : i < l.length := (List.getElem?_eq_some_iff.1 hu).1
  have hiz : i < zs.length := by omega
  rw [hc i (by omega)]
  have e : zs.getD i 0 = zs[i] := by simp [List.getD, List.getElem?_eq_getElem hiz]
  have hub := hr zs[i] (List.getElem_mem _)
  have : u = UInt8.ofNat zs[i].toNat := by
    rw [← hb] at hu
    simp only [Lib.bytesOf, List.getElem?_map, List.getElem?_take, if_pos hi, List.getElem?_eq_getElem hiz, Option.map_some, Option.some.injEq] at hu
    exact hu.symm
  rw [e, this]
  unfold bv
  rw [UInt8.toNat_ofNat']
  congr 2
  omega

theorem join_four (b o c : Nat) (vs : List Value) (ls : List (List UInt8)) (w : World) (h4 : ls.length = 4) (hc : 4 ≤ c) (hP : Lib.PartsAt w ⟨b, o, none⟩ vs ls) (hl : Lib.lens ls ≤ 140737488355328) :
    Calls Tryz.prog 78 #[.slice (some ⟨b, o, none⟩) 4 c, .slice none 0 0] w fun e w' => ∃ v', e = .returned v' ∧ Lib.FreshBytes w.heap.size w' v' ls.flatten ∧ Below w.heap.size w w' := by
  have h := Any.bytes_Join_many join_lays b o 4 c vs ls (.slice none 0 0) [] w h4 (by decide) hP hc ⟨none, 0, rfl, fun _ => rfl, fun a ha => by cases ha⟩ (by decide) (by simpa using hl)
  refine h.mono ?_
  rintro e w' ⟨v', h1, h2, h3⟩
  have : Lib.join ls [] = ls.flatten := by
    cases ls with
    | nil => cases h4
    | cons x r => rw [Lib.join_cons]; simp [Lib.joinTail]
  rw [this] at h2
  exact ⟨v', h1, h2, h3⟩

theorem holds_of_bytes {w : World} {A : Option Addr} {n c : Nat} {xs : List UInt8} (h : BytesAt w (.slice A n c) xs) : Lib.HoldsBytes w (.slice A n c) xs := by
  have hs := Src.of_bytes h
  obtain ⟨A', c', he, h1, h2, h3⟩ := h
  injection he with e1 e2 e3
  subst e1 e2 e3
  exact ⟨A, c, rfl, fun ha => List.eq_nil_of_length_eq_zero (hs.1 ha), fun a ha i x hx => hs.2 a ha i _ (by rw [List.getElem?_map, hx]; rfl)⟩

/-- Four parts in a row of their own. -/
theorem parts_four {w : World} {v1 v2 v3 v4 : Value} {l1 l2 l3 l4 : List UInt8} (h1 : Lib.HoldsBytes w v1 l1) (h2 : Lib.HoldsBytes w v2 l2) (h3 : Lib.HoldsBytes w v3 l3) (h4 : Lib.HoldsBytes w v4 l4) {t : TypeId} :
    Lib.PartsAt (w.alloc (.cells #[v1, v2, v3, v4] t)) ⟨w.heap.size, 0, none⟩ [v1, v2, v3, v4] [l1, l2, l3, l4] := by
  have up : ∀ {v l}, Lib.HoldsBytes w v l → Lib.HoldsBytes (w.alloc (.cells #[v1, v2, v3, v4] t)) v l := by
    rintro v l ⟨p, c, e1, e2, e3⟩
    exact ⟨p, c, e1, e2, fun a ha i x hx => by rw [World.cell?_alloc_lt _ _ _ (lt_of_cell (e3 a ha i x hx))]; exact e3 a ha i x hx⟩
  refine ⟨rfl, fun i v hv => ?_, fun i v l hv hl => ?_⟩
  · rw [add_at, Nat.zero_add, World.cell?_alloc_new]
    simpa using hv
  · match i with
    | 0 => simp at hv hl; subst hv hl; exact up h1
    | 1 => simp at hv hl; subst hv hl; exact up h2
    | 2 => simp at hv hl; subst hv hl; exact up h3
    | 3 => simp at hv hl; subst hv hl; exact up h4
    | i + 4 => simp at hv

theorem joined_four (b o c : Nat) (vs : List Value) (ls : List (List UInt8)) (w : World) (h4 : ls.length = 4) (hc : 4 ≤ c) (hcm : c ≤ 9223372036854775807) (hP : Lib.PartsAt w ⟨b, o, none⟩ vs ls) (hl : Lib.lens ls ≤ 140737488355328) :
    Calls Tryz.prog 124 #[.slice (some ⟨b, o, none⟩) 4 c] w fun e w' => ∃ v', e = .returned v' ∧ Lib.FreshBytes w.heap.size w' v' ls.flatten ∧ Below w.heap.size w w' := by
  have J := join_four b o c vs ls w h4 hc hP hl
  have J2 := Lib.hid J
  clear J hP
  go_enter Tryz.func124, Tryz.ntmps124
  go_wp2_with fail
  refine J2.out.mono ?_
  rintro e w1 ⟨v', rfl, h2, h3⟩
  have H2 := Lib.hid h2
  have H3 := Lib.hid h3
  clear h2 h3
  go_wp2_with fail
  go_ret
  exact ⟨_, rfl, H2.out, H3.out⟩

theorem frameOf_flat (xs : List UInt8) (h h' s : Nat) (hh : h = xs.length + 1) (hh' : h' = 4294967295 - h) (hs : s = crcSum xs) : [four h, four h', xs, four s].flatten = frameOf xs := by
  subst hh hh' hs
  simp [frameOf]

theorem framed_is (A : Option Addr) (n c h : Nat) (xs : List UInt8) (w : World) (hn : xs.length = n) (hb : BytesAt w (.slice A n c) xs) (hm : n ≤ 32768) (hh : h = n + 1) :
    Calls Tryz.prog 113 #[.slice A n c, .int .u32 (h : Int)] w fun e w' => ∃ g cp, e = .returned (.slice (some ⟨g, 0, none⟩) (n + 12) cp) ∧ w.heap.size ≤ g ∧ Mine w' g cp (frameOf xs) ∧ Keeps [] w w' := by
  have hl : h < 4294967296 := by omega
  have hn2 : n ≤ 9223372036854775807 := by omega
  have HF := Lib.hid (frameOf_flat xs h (4294967295 - h) (crcSum xs) (by omega) rfl rfl)
  have hsl := crcSum_lt xs
  obtain ⟨W1, hW1⟩ : ∃ W1, w.alloc (.cells ((four h).map bv).toArray 5) = W1 := ⟨_, rfl⟩
  have z1 : W1.heap.size = w.heap.size + 1 := by rw [← hW1]; simp
  have k1 : Keeps [] w W1 := by rw [← hW1]; exact (Keeps.refl [] w).alloc _
  have b1 : BytesAt W1 (.slice (some ⟨w.heap.size, 0, none⟩) 4 4) (four h) := by rw [← hW1]; exact row_at w (four h) (0, 0) (by simp [four_len])
  obtain ⟨W2, hW2⟩ : ∃ W2, W1.alloc (.cells ((four (4294967295 - h)).map bv).toArray 5) = W2 := ⟨_, rfl⟩
  have z2 : W2.heap.size = W1.heap.size + 1 := by rw [← hW2]; simp
  have k2 : Keeps [] W1 W2 := by rw [← hW2]; exact (Keeps.refl [] W1).alloc _
  have b2 : BytesAt W2 (.slice (some ⟨W1.heap.size, 0, none⟩) 4 4) (four (4294967295 - h)) := by rw [← hW2]; exact row_at W1 (four (4294967295 - h)) (0, 0) (by simp [four_len])
  obtain ⟨W3, hW3⟩ : ∃ W3, W2.alloc (.cells #[.slice A n c] 55) = W3 := ⟨_, rfl⟩
  have k3 : Keeps [] W2 W3 := by rw [← hW3]; exact (Keeps.refl [] W2).alloc _
  have P1 := one_part (bs := xs) (A := A) (c := c) (by rw [hn]; exact hb.grow (k1.trans' k2)) (by omega)
  rw [hn, hW3] at P1
  have SU := csum _ 1 1 _ _ P1 (by decide) trivial
  rw [show (List.flatMap (fun x : Part => x.bs) [⟨A, c, xs⟩]) = xs by simp] at SU
  rw [z2, z1] at SU
  rw [z1] at b2
  have HSU := Lib.hid SU
  have HB := Lib.hid hb
  have HN := Lib.hid hn
  have h1l := four_len h
  have h2l := four_len (4294967295 - h)
  have T := turned_of h W1 hl
  have B1 := bytes_head h w hl
  rw [hW1] at B1
  have B2 := bytes_head (4294967295 - h) W1 (by omega)
  rw [hW2] at B2
  have HC1 := Lib.hid B1
  have HC2 := Lib.hid B2
  have HT := Lib.hid T
  have HK := Lib.hid (k1.trans' (k2.trans' k3))
  have HB1 := Lib.hid (b1.grow (k2.trans' k3))
  have HB2 := Lib.hid (b2.grow k3)
  clear hb SU P1 b1 b2 k1 k2 k3 B1 B2 T hh
  generalize four (4294967295 - h) = f2 at *
  generalize four h = f1 at *
  generalize 4294967295 - h = h' at *
  generalize crcSum xs = s at *
  go_enter Tryz.func113, Tryz.ntmps113
  go_wp2_with fail
  refine HC1.out.mono ?_
  rintro e w1 ⟨rfl, rfl⟩
  go_wp2_with fail
  refine HT.out.mono ?_
  rintro e w1 ⟨rfl, rfl⟩
  go_wp2_with fail
  refine HC2.out.mono ?_
  rintro e w1 ⟨rfl, rfl⟩
  go_wp2_with fail
  refine HSU.out.mono ?_
  rintro e W4 ⟨rfl, hk4⟩
  have HK4 := Lib.hid hk4
  clear hk4 HSU
  go_wp2_with fail
  refine (bytes_u32 s W4 hsl).mono ?_
  rintro e w1 ⟨rfl, rfl⟩
  obtain ⟨W5, hW5⟩ : ∃ W5, W4.alloc (.cells ((four s).map bv).toArray 5) = W5 := ⟨_, rfl⟩
  have z5 : W5.heap.size = W4.heap.size + 1 := by rw [← hW5]; simp
  have k5 : Keeps [] W4 W5 := by rw [← hW5]; exact (Keeps.refl [] W4).alloc _
  have b5 : BytesAt W5 (.slice (some ⟨W4.heap.size, 0, none⟩) 4 4) (four s) := by rw [← hW5]; exact row_at W4 (four s) (0, 0) (by simp [four_len])
  have hk45 := HK4.out.trans' k5
  have PF := parts_four (holds_of_bytes (HB1.out.grow hk45)) (holds_of_bytes (HB2.out.grow hk45)) (holds_of_bytes (HB.out.grow (HK.out.trans' hk45))) (holds_of_bytes b5) (t := 55)
  have HLN : Lib.lens [f1, f2, xs, four s] = n + 12 := by
    have := HN.out
    simp [Lib.lens, h1l, h2l, four_len, this]
    omega
  have JF0 := joined_four _ _ 4 _ _ _ rfl (Nat.le_refl _) (by omega) PF (by rw [HLN]; omega)
  rw [z5] at JF0
  have JF := Lib.hid JF0
  clear JF0
  have HKE : Hid (Keeps [] w (W5.alloc (.cells #[.slice (some ⟨w.heap.size, 0, none⟩) 4 4, .slice (some ⟨w.heap.size + 1, 0, none⟩) 4 4, .slice A n c, .slice (some ⟨W4.heap.size, 0, none⟩) 4 4] 55))) := (HK.out.trans' hk45).alloc _
  clear PF hk45 k5 b5
  go_wp2_with fail
  refine JF.out.mono ?_
  rintro e w1 ⟨v', rfl, h2, h3⟩
  rw [HF.out] at h2
  obtain ⟨g, cp, rfl, hg, hM⟩ := mine_of_fresh h2 (by rw [frameOf_len]; omega)
  rw [frameOf_len, hn]
  have HM := Lib.hid hM
  have HG := Lib.hid hg
  have HE : Hid (Keeps [] w w1) := HKE.out.trans' (Keeps.of_below h3)
  have hks := HKE.out.size
  clear h2 h3 hM hg
  go_wp2_with fail
  go_ret
  exact ⟨g, cp, rfl, Nat.le_trans hks HG.out, HM.out, HE.out⟩

theorem frame_ok (A : Option Addr) (n c : Nat) (xs : List UInt8) (w : World) (hn : xs.length = n) (hb : BytesAt w (.slice A n c) xs) (hm : n ≤ 32768) :
    Calls Tryz.prog 92 #[.slice A n c] w fun e w' => ∃ g cp, e = .returned (.tuple #[.slice (some ⟨g, 0, none⟩) (n + 12) cp, .int .i64 0]) ∧ w.heap.size ≤ g ∧ Mine w' g cp (frameOf xs) ∧ Keeps [] w w' := by
  have HF := Lib.hid (framed_is A n c (n + 1) xs w hn hb hm rfl)
  clear hb
  go_enter Tryz.func92, Tryz.ntmps92
  go_wp2
  refine wp_scope_once 0 rfl ?_
  go_wp2_with fail
  refine (head_of A n c w hm).mono ?_
  rintro e w' ⟨rfl, rfl⟩
  go_wp2_with fail
  refine HF.out.mono ?_
  rintro e w1 ⟨g, cp, rfl, h1, h2, h3⟩
  have H1 := Lib.hid h1
  have H2 := Lib.hid h2
  have H3 := Lib.hid h3
  clear h1 h2 h3 HF
  go_wp2
  simp only [Exit.jump]
  refine bodyPost_ret (results_tmp2 rfl _ _ _) rfl ?_
  exact ⟨g, cp, rfl, H1.out, H2.out, H3.out⟩

theorem frame_long (A : Option Addr) (n c : Nat) (w : World) (hm : 32768 < n) (h2 : n ≤ 9223372036854775807) :
    Calls Tryz.prog 92 #[.slice A n c] w fun e w' => e = .returned (.tuple #[.slice none 0 0, .int .i64 3]) ∧ w = w' := by
  go_enter Tryz.func92, Tryz.ntmps92
  go_wp2
  refine wp_scope_once 0 rfl ?_
  go_wp2_with fail
  go_step3
  refine ⟨rfl, ?_⟩
  go_wp2
  rw [Exit.noGoto_ret]
  refine bodyPost_ret (results_tmp2 rfl _ _ _) rfl ?_
  exact ⟨rfl, rfl⟩

theorem size_ok (A : Option Addr) (n c : Nat) (w : World) (hm : n ≤ 32768) : Calls Tryz.prog 72 #[.slice A n c] w fun e w' => e = .returned (.int .i64 ((n + 12 : Nat) : Int)) ∧ w = w' := by
  have HS := Lib.hid (frame_size (n + 1) w (by omega) (by omega))
  go_enter Tryz.func72, Tryz.ntmps72
  go_wp2
  refine wp_scope_once 0 rfl ?_
  go_wp2_with fail
  refine (head_of A n c w hm).mono ?_
  rintro e w' ⟨rfl, rfl⟩
  go_wp2_with fail
  refine HS.out.mono ?_
  rintro e w' ⟨rfl, rfl⟩
  go_wp2
  simp only [Exit.jump]
  go_ret
  exact ⟨rfl, rfl⟩

theorem size_long (A : Option Addr) (n c : Nat) (w : World) (hm : 32768 < n) (h2 : n ≤ 9223372036854775807) : Calls Tryz.prog 72 #[.slice A n c] w fun e w' => e = .returned (.int .i64 0) ∧ w = w' := by
  go_enter Tryz.func72, Tryz.ntmps72
  go_wp2
  refine wp_scope_once 0 rfl ?_
  go_wp2_with fail
  go_step3
  refine ⟨rfl, ?_⟩
  go_wp2
  rw [Exit.noGoto_ret]
  go_ret
  exact ⟨rfl, rfl⟩

end Go.Proofs.YthgpjlmdllihmaaGreat
/- frames: what stands from each place on at which a frame may begin, gone over. -/
namespace Go.Proofs.YthgpjlmdllihmaaGreat
open Go.RowKit Go.Shelf
set_option linter.unusedVariables false
attribute [local go_sem] Oper.semAt_some

theorem slice_from (A : Option Addr) (n c at_ : Nat) (xs : List UInt8) (hn : xs.length = n) (hnc : n ≤ c) (hcm : c ≤ 9223372036854775807) (ha : at_ ≤ n) (hA : 0 < n → ∃ b o, A = some ⟨b, o, none⟩) :
    ∃ B d, (∀ W, (Instr.slice 55 (.slice A n c) (some (.int .i64 (at_ : Int))) none none).run Tryz.prog W = .ok (.slice B (n - at_) d) W) ∧ ∀ W, BytesAt W (.slice A n c) xs → BytesAt W (.slice B (n - at_) d) (xs.drop at_) := by
  have hr : ∀ W, (Instr.slice 55 (.slice A n c) (some (.int .i64 (at_ : Int))) none none).run Tryz.prog W = .ok (.slice (if c = at_ then A else A.map (·.add at_)) (n - at_) (c - at_)) W := by
    intro W
    rw [run_slice_l W 55 A n c (by simp [Program.elem, Tryz.underlying55]) .i64 _ (by omega) (by omega)]
    rw [show Tryz.prog.elem 55 = 5 by simp [Program.elem, Tryz.underlying55], Tryz.sizeOf5]
    simp [Result.andThen, sliced]
  refine ⟨_, _, hr, fun W hb => ?_⟩
  obtain ⟨A', c', he, h1, h2, h3⟩ := hb
  injection he with e1 e2 e3
  subst e1 e3
  refine ⟨_, _, by rw [List.length_drop, hn], by rw [List.length_drop]; omega, by omega, fun hp => ?_⟩
  rw [List.length_drop] at hp
  obtain ⟨b, o, rfl, hc⟩ := h3 (by omega)
  refine ⟨b, o + at_, ?_, fun i u hu => ?_⟩
  · rw [if_neg (by omega)]
    simp [add_at]
  · rw [List.getElem?_drop] at hu
    have := hc (at_ + i) u hu
    rwa [← Nat.add_assoc] at this

/-- The k'th place. -/
def plc (xs : List UInt8) (k : Nat) : Nat := offs ((recs xs).take k)
theorem plc_le (xs : List UInt8) (k : Nat) : plc xs k ≤ xs.length := offs_le xs k
theorem plc_next {xs : List UInt8} {k : Nat} (hk : k < (recs xs).length) : framed (xs.drop (plc xs k)) = true ∧ plc xs (k + 1) = plc xs k + (num4 (xs.drop (plc xs k)) + 11) := by
  obtain ⟨h1, h2, h3⟩ := recs_some hk
  have := recOf_len h1
  unfold plc
  rw [h3, ← h2]
  exact ⟨h1, by omega⟩

/-- What the bytes are, all the while. -/
def RestD (B : Nat) (A : Option Addr) (n c : Nat) (xs : List UInt8) (W : World) : Prop := W.cell? ⟨B, 0, none⟩ = some (.slice A n c) ∧ BytesAt W (.slice A n c) xs
def RestE (xs : List UInt8) (k : Nat) (args : Array Value) (W : World) : Prop := ∃ v, args = #[.int .i64 (plc xs k : Nat), v] ∧ BytesAt W v (xs.drop (plc xs k))

set_option maxRecDepth 100000 in
set_option maxHeartbeats 1000000 in
theorem rests_seq (B n c : Nat) (A : Option Addr) (xs : List UInt8) (hn : xs.length = n) : Seqs Tryz.prog 105 #[.pointer (some ⟨B, 0, none⟩)] (RestE xs) ((recs xs).length + 1) (recs xs).length (RestD B A n c xs) := by
  intro l J Jx W hD hJ hJx hY h0
  obtain ⟨hnc, hcm, hx⟩ := cap_of_bytes hD.2
  clear hx
  have hA : 0 < n → ∃ b o, A = some ⟨b, o, none⟩ := fun h => by
    obtain ⟨b, o, h1, _⟩ := bytes_addr hD.2 h
    exact ⟨b, o, h1⟩
  refine (callsIn_wide (n := 3)).1 ?_
  refine callsIn_of_wp Tryz.func105 rfl trivial ?_ rfl
  simp only [Tryz.ntmps105, List.size_toArray, List.length_cons, List.length_nil, Nat.reduceAdd, Nat.reduceSub, Array.replicate_succ, Array.replicate_zero, List.push_toArray, List.append_toArray, List.nil_append, List.cons_append]
  have HD := Lib.hid hD
  have HA := Lib.hid hA
  have HN := Lib.hid hn
  clear hD hA hn
  gi_wp2
  gi_loopw [3] (fun v wr => ∃ k : Nat, k ≤ (recs xs).length ∧ v = .int .i64 (plc xs k : Nat) ∧ J k wr ∧ Hid (RestD B A n c xs wr) ∧ W.heap.size ≤ wr.heap.size) (fun v _ => n - (intOf v).toNat)
  case atStart => exact ⟨0, Nat.zero_le _, rfl, h0, HD, Nat.le_refl _⟩
  case round =>
    obtain ⟨k, hk, rfl, hJk, HDk, hz⟩ := hrel
    have hp := plc_le xs k
    rw [HN.out] at hp
    obtain ⟨B', d', hsl, hsb⟩ := slice_from A n c (plc xs k) xs HN.out hnc hcm hp HA.out
    have hbs := hsb wr HDk.out.2
    have c0 := HDk.out.1
    have HY := hY k wr #[.int .i64 (plc xs k : Nat), .slice B' (n - plc xs k) d'] (by omega) hJk HDk.out hz ⟨_, rfl, hbs⟩
    obtain ⟨fn, tmps, assign, body, hy, hR⟩ := HY (3 - 1)
    have HSB := Lib.hid hsb
    clear hsb HY hbs
    gi_wp2
    refine hR.mono ?_
    rintro e W3 (⟨rfl, hlt, hJ3, hD3, ho3⟩ | ⟨rfl, hx3, ho3⟩)
    · obtain ⟨hf, hnx⟩ := plc_next hlt
      have hb3 := HSB.out W3 hD3.2
      have c3 := hD3.1
      have hfl := framed_iff.1 hf
      have hp1 := plc_le xs (k + 1)
      rw [HN.out] at hp1
      have hl4 := num4_lt (xs.drop (plc xs k))
      have HH := Lib.hid (head_in B' (n - plc xs k) d' (xs.drop (plc xs k)) W3 (by rw [List.length_drop, HN.out]) hb3 (by have := hfl.1; rw [List.length_drop, HN.out] at this; omega) (by omega))
      have HFS := Lib.hid (frame_size (num4 (xs.drop (plc xs k))) W3 hfl.2.1 hl4)
      have HD3 := Lib.hid hD3
      have HNX := Lib.hid hnx
      have h12 := hfl.2.1
      clear hfl hf hb3 hy hR c0 hD3
      rw [hnx] at hp1
      generalize num4 (xs.drop (plc xs k)) = h at *
      gi_wp2_with (first | (refine ⟨trivial, ?_⟩; gi_at_call 106; refine (callsIn_wide.2 HH.out).mono ?_; rintro e w' ⟨rfl, rfl⟩) | (refine ⟨trivial, ?_⟩; gi_at_call 90; refine (callsIn_wide.2 HFS.out).mono ?_; rintro e w' ⟨rfl, rfl⟩))
      go_roundw
      case rel => exact ⟨k + 1, by omega, by rw [HNX.out]; go_num, hJ3, HD3, by have := ho3.size; omega⟩
      case measure => simp [intOf]; omega
    · gi_wp2
      go_end0
      exact ⟨⟨_, rfl⟩, .inr ⟨k, by omega, hx3⟩⟩

theorem rests_is (A : Option Addr) (n c : Nat) (w : World) : Calls Tryz.prog 86 #[.slice A n c] w fun e w' => e = .returned (.func (.func 105) #[] #[.pointer (some ⟨w.heap.size, 0, none⟩)]) ∧ w.alloc (.cells #[.slice A n c] 55) = w' := by
  go_enter Tryz.func86, Tryz.ntmps86
  go_wp2_with fail
  go_ret
  exact ⟨rfl, rfl⟩

theorem records_is (A : Option Addr) (n c : Nat) (w : World) : Calls Tryz.prog 71 #[.slice A n c] w fun e w' => e = .returned (.func (.func 85) #[] #[.pointer (some ⟨w.heap.size, 0, none⟩)]) ∧ w.alloc (.cells #[.slice A n c] 55) = w' := by
  go_enter Tryz.func71, Tryz.ntmps71
  go_wp2_with fail
  go_ret
  exact ⟨rfl, rfl⟩

end Go.Proofs.YthgpjlmdllihmaaGreat
