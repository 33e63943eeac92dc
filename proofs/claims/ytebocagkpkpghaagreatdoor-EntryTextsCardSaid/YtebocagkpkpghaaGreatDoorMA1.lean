/- Texts of one proof, laid together: Y3 Y4. -/
import Derived.Shelf.Strconv.AtoiAll
import Derived.Test.YtebocagkpkpghaaGreatDoorM99
import Derived.Test.YtebocagkpkpghaaGreatDoorM72
/- entry: strconv.Atoi, by the shelf's contracts. -/
namespace Go.Proofs.YtebocagkpkpghaaGreatDoor
open Go.RowKit Go.Shelf
set_option linter.unusedVariables false
set_option maxRecDepth 100000

def atoi_ren : Go.Shelf.Ren := ⟨fun | 129 => 120 | 171 => 55 | 172 => 92 | 205 => 147 | 243 => 76 | 244 => 106 | 245 => 107 | 246 => 89 | 247 => 130 | 279 => 131 | 280 => 132 | 281 => 133 | 282 => 134 | 283 => 101 | 284 => 102 | 285 => 103 | 286 => 104 | 287 => 145 | 316 => 146 | 317 => 125 | 318 => 126 | 319 => 127 | 320 => 128 | 321 => 156 | 322 => 157 | 337 => 142 | 338 => 143 | n => n, fun | 0 => 0 | 2 => 2 | 3 => 3 | 4 => 4 | 5 => 5 | 9 => 9 | 20 => 20 | 21 => 21 | 37 => 81 | 46 => 134 | 51 => 156 | 53 => 137 | 75 => 85 | 76 => 86 | 85 => 168 | 127 => 114 | 143 => 193 | 145 => 195 | 167 => 167 | 168 => 170 | 171 => 136 | 173 => 140 | 175 => 180 | 210 => 183 | 212 => 164 | 213 => 165 | 232 => 189 | 233 => 190 | 80 => 89 | n => n, fun | 15 => 1 | 16 => 2 | 17 => 0 | 18 => 3 | 19 => 4 | n => n⟩
theorem atoi_lays : LaysC.n172 Tryz.prog atoi_ren where
  mixed := by kernel_rfl
  f129 := Tryz.func120.trans (congrArg some (by kernel_rfl))
  f171 := Tryz.func55.trans (congrArg some (by kernel_rfl))
  f172 := Tryz.func92.trans (congrArg some (by kernel_rfl))
  f205 := Tryz.func147.trans (congrArg some (by kernel_rfl))
  f243 := Tryz.func76.trans (congrArg some (by kernel_rfl))
  f244 := Tryz.func106.trans (congrArg some (by kernel_rfl))
  f245 := Tryz.func107.trans (congrArg some (by kernel_rfl))
  f246 := Tryz.func89.trans (congrArg some (by kernel_rfl))
  f247 := Tryz.func130.trans (congrArg some (by kernel_rfl))
  f279 := Tryz.func131.trans (congrArg some (by kernel_rfl))
  f280 := Tryz.func132.trans (congrArg some (by kernel_rfl))
  f281 := Tryz.func133.trans (congrArg some (by kernel_rfl))
  f282 := Tryz.func134.trans (congrArg some (by kernel_rfl))
  f283 := Tryz.func101.trans (congrArg some (by kernel_rfl))
  f284 := Tryz.func102.trans (congrArg some (by kernel_rfl))
  f285 := Tryz.func103.trans (congrArg some (by kernel_rfl))
  f286 := Tryz.func104.trans (congrArg some (by kernel_rfl))
  f287 := Tryz.func145.trans (congrArg some (by kernel_rfl))
  f316 := Tryz.func146.trans (congrArg some (by kernel_rfl))
  f317 := Tryz.func125.trans (congrArg some (by kernel_rfl))
  f318 := Tryz.func126.trans (congrArg some (by kernel_rfl))
  f319 := Tryz.func127.trans (congrArg some (by kernel_rfl))
  f320 := Tryz.func128.trans (congrArg some (by kernel_rfl))
  f321 := Tryz.func156.trans (congrArg some (by kernel_rfl))
  f322 := Tryz.func157.trans (congrArg some (by kernel_rfl))
  f337 := Tryz.func142.trans (congrArg some (by kernel_rfl))
  f338 := Tryz.func143.trans (congrArg some (by kernel_rfl))
  t0 := Tryz.underlying0
  a0 := Tryz.isAgg0
  z0 := Tryz.sizeOf0
  v0 := Tryz.zeroValue0
  t2 := Tryz.underlying2
  a2 := Tryz.isAgg2
  z2 := Tryz.sizeOf2
  v2 := Tryz.zeroValue2
  t3 := Tryz.underlying3
  a3 := Tryz.isAgg3
  z3 := Tryz.sizeOf3
  v3 := Tryz.zeroValue3
  t4 := Tryz.underlying4
  a4 := Tryz.isAgg4
  z4 := Tryz.sizeOf4
  v4 := Tryz.zeroValue4
  t5 := Tryz.underlying5
  a5 := Tryz.isAgg5
  z5 := Tryz.sizeOf5
  v5 := Tryz.zeroValue5
  t9 := Tryz.underlying9
  a9 := Tryz.isAgg9
  z9 := Tryz.sizeOf9
  v9 := Tryz.zeroValue9
  t20 := Tryz.underlying20
  a20 := Tryz.isAgg20
  z20 := Tryz.sizeOf20
  v20 := Tryz.zeroValue20
  t21 := Tryz.underlying21
  a21 := Tryz.isAgg21
  z21 := Tryz.sizeOf21
  v21 := Tryz.zeroValue21
  t37 := Tryz.underlying81
  a37 := Tryz.isAgg81
  z37 := Tryz.sizeOf81
  v37 := Tryz.zeroValue81
  t46 := Tryz.underlying134
  a46 := Tryz.isAgg134
  z46 := Tryz.sizeOf134
  v46 := Tryz.zeroValue134
  t51 := Tryz.underlying156
  a51 := Tryz.isAgg156
  z51 := Tryz.sizeOf156
  v51 := Tryz.zeroValue156
  t53 := Tryz.underlying137
  a53 := Tryz.isAgg137
  z53 := Tryz.sizeOf137
  v53 := Tryz.zeroValue137
  t75 := Tryz.underlying85
  a75 := Tryz.isAgg85
  z75 := Tryz.sizeOf85
  v75 := Tryz.zeroValue85
  t76 := Tryz.underlying86
  a76 := Tryz.isAgg86
  z76 := Tryz.sizeOf86
  v76 := Tryz.zeroValue86
  t85 := Tryz.underlying168
  a85 := Tryz.isAgg168
  z85 := Tryz.sizeOf168
  v85 := Tryz.zeroValue168
  t127 := Tryz.underlying114
  a127 := Tryz.isAgg114
  z127 := Tryz.sizeOf114
  v127 := Tryz.zeroValue114
  t143 := Tryz.underlying193
  a143 := Tryz.isAgg193
  z143 := Tryz.sizeOf193
  v143 := Tryz.zeroValue193
  t145 := Tryz.underlying195
  a145 := Tryz.isAgg195
  z145 := Tryz.sizeOf195
  v145 := Tryz.zeroValue195
  t167 := Tryz.underlying167
  a167 := Tryz.isAgg167
  z167 := Tryz.sizeOf167
  v167 := Tryz.zeroValue167
  t168 := Tryz.underlying170
  a168 := Tryz.isAgg170
  z168 := Tryz.sizeOf170
  v168 := Tryz.zeroValue170
  t171 := Tryz.underlying136
  a171 := Tryz.isAgg136
  z171 := Tryz.sizeOf136
  v171 := Tryz.zeroValue136
  t173 := Tryz.underlying140
  a173 := Tryz.isAgg140
  z173 := Tryz.sizeOf140
  v173 := Tryz.zeroValue140
  t175 := Tryz.underlying180
  a175 := Tryz.isAgg180
  z175 := Tryz.sizeOf180
  v175 := Tryz.zeroValue180
  t210 := Tryz.underlying183
  a210 := Tryz.isAgg183
  z210 := Tryz.sizeOf183
  v210 := Tryz.zeroValue183
  t212 := Tryz.underlying164
  a212 := Tryz.isAgg164
  z212 := Tryz.sizeOf164
  v212 := Tryz.zeroValue164
  t213 := Tryz.underlying165
  a213 := Tryz.isAgg165
  z213 := Tryz.sizeOf165
  t232 := Tryz.underlying189
  a232 := Tryz.isAgg189
  z232 := Tryz.sizeOf189
  v232 := Tryz.zeroValue189
  t233 := Tryz.underlying190
  a233 := Tryz.isAgg190
  z233 := Tryz.sizeOf190
  v233 := Tryz.zeroValue190
  g15 := by kernel_rfl
  g16 := by kernel_rfl
  g17 := by kernel_rfl
  g18 := by kernel_rfl
  g19 := by kernel_rfl
  t80 := Tryz.underlying89
  a80 := Tryz.isAgg89
  z80 := Tryz.sizeOf89
  v80 := Tryz.zeroValue89
  i0 := by kernel_rfl
  i2 := by kernel_rfl
  i3 := by kernel_rfl
  i4 := by kernel_rfl
  i5 := by kernel_rfl
  i9 := by kernel_rfl
  i20 := by kernel_rfl
  i21 := by kernel_rfl
  i37 := by kernel_rfl
  i46 := by kernel_rfl
  i51 := by kernel_rfl
  i53 := by kernel_rfl
  i75 := by kernel_rfl
  i76 := by kernel_rfl
  i80 := by kernel_rfl
  i85 := by kernel_rfl
  i127 := by kernel_rfl
  i143 := by kernel_rfl
  i145 := by kernel_rfl
  i167 := by kernel_rfl
  i168 := by kernel_rfl
  i171 := by kernel_rfl
  i173 := by kernel_rfl
  i175 := by kernel_rfl
  i210 := by kernel_rfl
  i212 := by kernel_rfl
  i232 := by kernel_rfl
  i233 := by kernel_rfl
  m15 := by kernel_rfl
  m16 := by kernel_rfl
  m17 := by kernel_rfl
  m18 := by kernel_rfl
  m19 := by kernel_rfl
  c0 := by kernel_rfl
  c2 := by kernel_rfl
  c3 := by kernel_rfl
  c4 := by kernel_rfl
  c5 := by kernel_rfl
  c9 := by kernel_rfl
  c20 := by kernel_rfl
  c21 := by kernel_rfl
  c37 := by kernel_rfl
  c46 := by kernel_rfl
  c51 := by kernel_rfl
  c53 := by kernel_rfl
  c75 := by kernel_rfl
  c76 := by kernel_rfl
  c80 := by kernel_rfl
  c85 := by kernel_rfl
  c127 := by kernel_rfl
  c143 := by kernel_rfl
  c145 := by kernel_rfl
  c167 := by kernel_rfl
  c168 := by kernel_rfl
  c171 := by kernel_rfl
  c173 := by kernel_rfl
  c175 := by kernel_rfl
  c210 := by kernel_rfl
  c212 := by kernel_rfl
  c213 := by kernel_rfl
  c232 := by kernel_rfl
  c233 := by kernel_rfl
end Go.Proofs.YtebocagkpkpghaaGreatDoor
/- entry: strconv.Atoi at any text; the reader's number; walked. -/
namespace Go.Proofs.YtebocagkpkpghaaGreatDoor
open Go.RowKit Go.Shelf
set_option linter.unusedVariables false
set_option linter.unusedSimpArgs false
set_option maxRecDepth 100000

/-- What the variables hold that name errors: nothing, or some error. -/
def ErrAt (g : Nat) (w : World) : Prop := ∃ ev, w.cell? ⟨g, 0, none⟩ = some ev ∧ (ev = .nilIface ∨ ∃ te pe, ev = .iface te pe)
theorem ErrAt.keep {g : Nat} {w w' : World} {bs : List Nat} (h : ErrAt g w) (hk : Keeps bs w w') (hb : g ∉ bs) : ErrAt g w' := by
  obtain ⟨ev, h1, h2⟩ := h
  exact ⟨ev, (hk.cell (lt_of_cell h1) (by simpa using hb)).trans h1, h2⟩
/-- All that a call of Atoi, Itoa reads of the package-level variables. -/
structure NumW (w : World) : Prop where
  pow : PowAt w
  syn : ErrAt 1 w
  rng : ErrAt 2 w
theorem ErrAt.lt {g : Nat} {w : World} (h : ErrAt g w) : g < w.heap.size := by
  obtain ⟨ev, h1, _⟩ := h
  exact lt_of_cell h1
/-- The number that Atoi answers. -/
def atoiR (l : Txt) : Int := match Lib.atoiAll l with | .ok v => v | .range => Lib.atoiSat l | _ => 0
theorem atoiR_bounds (l : Txt) : -9223372036854775808 ≤ atoiR l ∧ atoiR l ≤ 9223372036854775807 := by
  unfold atoiR
  cases h : Lib.atoiAll l with
  | ok v => exact Lib.atoiAll_bounds h
  | range => exact Lib.atoiSat_bounds l
  | _ => simp
theorem satoi_is (s : Txt) (w : World) (hs : s.length ≤ 1000000000) (h1 : ErrAt 1 w) (h2 : ErrAt 2 w) :
    Calls Tryz.prog 92 #[tv s] w fun e w' => (∃ er, e = .returned (.tuple #[.int .i64 (atoiR s), er])) ∧ Keeps [] w w' := by
  unfold tv
  have hd : (⟨s.toArray⟩ : ByteArray).data.toList = s := by simp
  have hz : (⟨s.toArray⟩ : ByteArray).size = s.length := by simp [ByteArray.size]
  unfold atoiR
  cases h : Lib.atoiAll s with
  | ok v =>
    refine (Any.strconv_Atoi_ok atoi_lays ⟨s.toArray⟩ (by omega) v (by rw [hd]; exact h) w).mono ?_
    rintro e w' ⟨rfl, hk⟩
    refine ⟨⟨_, rfl⟩, ?_⟩
    rcases hk with rfl | ⟨t, rfl⟩
    · exact Keeps.refl _ _
    · exact Keeps.of_below (Lib.bytesWorld_below _ _ _)
  | range =>
    obtain ⟨ev, hv, hev⟩ := h2
    refine (Any.strconv_Atoi_range atoi_lays ⟨s.toArray⟩ (by omega) (by rw [hd]; exact h) ev w hv hev).mono ?_
    rintro e w' ⟨N, rfl, _, _, hk⟩
    refine ⟨⟨_, by rw [hd]⟩, Keeps.of_below hk⟩
  | _ =>
    obtain ⟨ev, hv, hev⟩ := h1
    refine (Any.strconv_Atoi_syntax atoi_lays ⟨s.toArray⟩ (by omega) (by rw [hd]; exact h) ev w hv hev).mono ?_
    rintro e w' ⟨N, rfl, _, _, hk⟩
    exact ⟨⟨_, rfl⟩, Keeps.of_below hk⟩
theorem itoaI_is (n : Int) (w : World) (h0 : -9223372036854775808 ≤ n) (h1 : n ≤ 9223372036854775807) (h : PowAt w) :
    Calls Tryz.prog 55 #[.int .i64 n] w fun e w' => e = .returned (tv (Lib.itoa n)) ∧ Keeps [] w w' := by
  refine (Any.strconv_Itoa itoa_lays n h0 h1 w h).mono ?_
  rintro e w' ⟨rfl, k, os, rfl⟩
  exact ⟨rfl, Keeps.of_below (Lib.below_grow _ w (Nat.le_refl _) k os)⟩

/-- What the reader makes of a number's text: the number, and whether it is told as it must be. -/
def numOkI (d : Txt) : Bool := d == Lib.itoa (atoiR d)
set_option maxHeartbeats 4000000 in
theorem rnumber7_is (g : Nat) (T : Txt) (B : Bool) (b : UInt8) (w : World) (h : RdAt w g T B) (hT : T.length ≤ 1000000000) (hp : PowAt w) (h1 : ErrAt 1 w) (h2 : ErrAt 2 w) (hg1 : 1 ≠ g) (hg2 : 2 ≠ g) (hgp : ∀ X, Keeps [g] w X → PowAt X) :
    Calls Tryz.prog 78 #[.pointer (some ⟨g, 0, none⟩), .string ⟨#[b]⟩] w fun e w' => e = .returned (.int .i64 (atoiR (cutP b T).1)) ∧ RdAt w' g ((cutP b T).2.getD []) (B || !(cutP b T).2.isSome || !numOkI (cutP b T).1) ∧ Keeps [g] w w' := by
  have HU := Lib.hid (runtil_is g T B b w h hT)
  have hl := cutP_len (b := b) T
  obtain ⟨b0, b1⟩ := atoiR_bounds (cutP b T).1
  have HN : Hid (numOkI (cutP b T).1 = ((cutP b T).1 == Lib.itoa (atoiR (cutP b T).1))) := rfl
  obtain ⟨x, hx⟩ : ∃ x, (cutP b T).1 = x := ⟨_, rfl⟩
  obtain ⟨y, hy⟩ : ∃ y, (cutP b T).2.getD [] = y := ⟨_, rfl⟩
  obtain ⟨q, hq⟩ : ∃ q, (cutP b T).2.isSome = q := ⟨_, rfl⟩
  rw [hx] at hl b0 b1 HN
  rw [hx, hy, hq] at HU
  rw [hx, hy, hq]
  have HA := Lib.hid (fun X (hX : Keeps [g] w X) => satoi_is x X (by omega) (h1.keep hX (by simpa using hg1)) (h2.keep hX (by simpa using hg2)))
  obtain ⟨nn, hnn⟩ : ∃ nn, atoiR x = nn := ⟨_, rfl⟩
  rw [hnn] at HA HN b0 b1
  rw [hnn]
  have HI := Lib.hid (fun X (hX : Keeps [g] w X) => itoaI_is nn X b0 b1 (hgp X hX))
  obtain ⟨it, hit⟩ : ∃ it, Lib.itoa nn = it := ⟨_, rfl⟩
  rw [hit] at HI HN
  obtain ⟨r, hr⟩ : ∃ r, (x == it) = r := ⟨_, rfl⟩
  obtain ⟨hs1, hs2, hs3⟩ := tx_beq x it r hr
  rw [hr] at HN
  rw [HN.out]
  have HM := Lib.hid (fun T C q X (hX : RdAt X g T C) => rmust_is g T C q X hX)
  unfold tv at HU HA HI
  clear hx hy hq hT h hl hnn hit h1 h2 hp hgp
  go_enter Tryz.func78, Tryz.ntmps78
  go_wp2_with fail
  refine HU.out.mono ?_
  rintro e w1 ⟨rfl, hr1, hk1⟩
  have HR1 := Lib.hid hr1
  have HK1 := Lib.hid hk1
  clear hk1 hr1
  go_wp2_with fail
  refine (HA.out _ HK1.out).mono ?_
  rintro e w2 ⟨⟨er, rfl⟩, hk2⟩
  have HR2 := Lib.hid (HR1.out.keep hk2)
  have HK2 : Hid (Keeps [g] w w2) := HK1.out.trans hk2 (fun x hx => by simp at hx)
  clear hk2
  go_wp2_with fail
  refine (HI.out _ HK2.out).mono ?_
  rintro e w3 ⟨rfl, hk3⟩
  have HR3 := Lib.hid (HR2.out.keep hk3)
  have HK3 : Hid (Keeps [g] w w3) := HK2.out.trans hk3 (fun x hx => by simp at hx)
  clear hk3
  cases r
  · go_wp2_with fail
    refine (HM.out _ _ _ _ HR3.out).mono ?_
    rintro e w4 ⟨⟨v, rfl⟩, hr4, hk4⟩
    have HR4 := Lib.hid hr4
    have HK4 : Hid (Keeps [g] w w4) := HK3.out.trans hk4 (fun x hx => .inl hx)
    clear hr4 hk4
    go_wp2_with fail
    go_ret
    exact ⟨rfl, HR4.out, HK4.out⟩
  · go_wp2_with fail
    refine (HM.out _ _ _ _ HR3.out).mono ?_
    rintro e w4 ⟨⟨v, rfl⟩, hr4, hk4⟩
    have HR4 := Lib.hid hr4
    have HK4 : Hid (Keeps [g] w w4) := HK3.out.trans hk4 (fun x hx => .inl hx)
    clear hr4 hk4
    go_wp2_with fail
    go_ret
    exact ⟨rfl, HR4.out, HK4.out⟩
theorem str_upto2 (T : Txt) (j : Nat) (hj : j ≤ T.length) (W : World) : (Instr.slice 90 (.string ⟨T.toArray⟩) none (some (.int .i64 (j : Int))) none).run Tryz.prog W = .ok (.string ⟨(T.take j).toArray⟩) W := by
  rw [run_slice_string_to_if W 90 ⟨T.toArray⟩ .i64 (j : Int) Tryz.underlying90, if_pos ⟨by omega, by show (j : Int) ≤ (T.length : Int); omega⟩]
  rw [show ((j : Int)).toNat = j by omega, ByteArray.extract_mk]
  congr 2
theorem str_from2 (T : Txt) (i : Nat) (hi : i ≤ T.length) (W : World) : (Instr.slice 90 (.string ⟨T.toArray⟩) (some (.int .i64 (i : Int))) none none).run Tryz.prog W = .ok (.string ⟨(T.drop i).toArray⟩) W := by
  rw [run_slice_string_from_if W 90 ⟨T.toArray⟩ .i64 (i : Int) Tryz.underlying90, if_pos ⟨by omega, by show (i : Int) ≤ (T.length : Int); omega⟩]
  rw [show ((i : Int)).toNat = i by omega, ByteArray.extract_mk]
  congr 2
  show ByteArray.mk (List.take (T.length - i) (T.drop i)).toArray = _
  rw [List.take_of_length_le (by rw [List.length_drop]; omega)]
set_option maxHeartbeats 4000000 in
theorem rfirst_no (g : Nat) (T : Txt) (B : Bool) (n : Int) (w : World) (h : RdAt w g T B) (hT : T.length ≤ 1000000000) (hn : n < 0 ∨ (T.length : Int) < n) :
    Calls Tryz.prog 93 #[.pointer (some ⟨g, 0, none⟩), .int .i64 n] w fun e w' => e = .returned (.tuple #[tv [], .bool false]) ∧ w = w' := by
  obtain ⟨⟨c0, c1⟩, f0, f1⟩ := h.cells
  unfold tv
  clear h
  by_cases h0 : n < 0
  · go_enter Tryz.func93, Tryz.ntmps93
    go_wp2_with fail
    refine bodyPost_ret (results_tmp2 rfl _ _ _) rfl ?_
    exact ⟨rfl, rfl⟩
  · have h1 : (T.length : Int) < n := by omega
    go_enter Tryz.func93, Tryz.ntmps93
    go_wp2_with fail
    refine bodyPost_ret (results_tmp2 rfl _ _ _) rfl ?_
    exact ⟨rfl, rfl⟩
set_option maxHeartbeats 4000000 in
theorem rfirst_yes (g : Nat) (T : Txt) (B : Bool) (k : Nat) (w : World) (h : RdAt w g T B) (hT : T.length ≤ 1000000000) (hk : k ≤ T.length) :
    Calls Tryz.prog 93 #[.pointer (some ⟨g, 0, none⟩), .int .i64 (k : Int)] w fun e w' => e = .returned (.tuple #[tv (T.take k), .bool true]) ∧ RdAt w' g (T.drop k) B ∧ Keeps [g] w w' := by
  obtain ⟨⟨c0, c1⟩, f0, f1⟩ := h.cells
  have HR2 := Lib.hid (h.text (T.drop k))
  have HK2 : Hid (∀ x, Keeps [g] w (w.setCell ⟨g, 0, none⟩ x)) := fun x => (Keeps.refl [g] w).setCell (.inl (by simp)) _
  have g1 := fun W : World => str_upto2 T k hk W
  have g2 := fun W : World => str_from2 T k hk W
  have hk0 : ¬ (k : Int) < 0 := by omega
  have hk1 : ¬ (T.length : Int) < (k : Int) := by omega
  obtain ⟨x, hx⟩ : ∃ x, T.take k = x := ⟨_, rfl⟩
  obtain ⟨y, hy⟩ : ∃ y, T.drop k = y := ⟨_, rfl⟩
  rw [hx] at g1 ⊢
  rw [hy] at g2 HR2 ⊢
  unfold tv at HR2 ⊢
  clear h hx hy
  go_enter Tryz.func93, Tryz.ntmps93
  go_wp2_with fail
  refine bodyPost_ret (results_tmp2 rfl _ _ _) rfl ?_
  exact ⟨rfl, HR2.out, HK2.out _⟩
end Go.Proofs.YtebocagkpkpghaaGreatDoor
