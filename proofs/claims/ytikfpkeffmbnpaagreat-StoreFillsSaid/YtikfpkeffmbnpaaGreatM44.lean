/- Texts of one proof, laid together: U58. -/
import Derived.Test.YtikfpkeffmbnpaaGreatM43
import Derived.Test.YtikfpkeffmbnpaaGreatM42
/- StoreFills. -/
namespace Go.Proofs.YtikfpkeffmbnpaaGreat
open Go.RowKit Go.Shelf Go.Maps
set_option linter.unusedVariables false
set_option linter.unusedSimpArgs false
set_option maxRecDepth 100000

theorem own_lit (w : World) (cs : Array Value) (e : TypeId) (size n : Nat) (hsz : cs.size = n * size) (hn : n ≤ maxLen) : (w.alloc (.cells cs e)).ownsRow w.heap.size e size (.slice (some ⟨w.heap.size, 0, none⟩) n n) n cs.toList :=
  ⟨by simpa using hsz, .inr ⟨w.heap.size, n, cs, rfl, Nat.le_refl _, heap_alloc_new w _, Nat.le_refl _, hn, hsz, List.take_of_length_le (by simp [hsz])⟩⟩
theorem src_lit (w : World) (cs : Array Value) (t : TypeId) (m : Nat) : Src (w.alloc (.cells cs t)) (some ⟨w.heap.size, 0, none⟩) m cs.toList := by
  refine ⟨(fun h => by cases h), fun ad hA j x hx => ?_⟩
  cases hA
  rw [add_at, Nat.zero_add, World.cell?_alloc_new]
  simpa using hx

theorem fills_no (size beside n : Int) (w : World) (h1 : I64 size) (h2 : I64 beside) (h3 : I64 n) (h : size < 256 ∨ 3000 < size ∨ beside < -3 ∨ 3 < beside ∨ n < 0 ∨ 210 < n) :
    Calls Tryz.prog 5 #[.int .i64 size, .int .i64 beside, .int .i64 n] w fun e w' => e = .returned (.bool true) ∧ Keeps [] w w' := by
  have HK := Lib.hid (known4_any w)
  by_cases q1 : size < 256
  · go_enter Tryz.func5, Tryz.ntmps5
    go_wp2_with fail
    refine HK.out.mono ?_
    rintro e w1 ⟨rfl, hk⟩
    have HK1 := Lib.hid hk
    clear hk
    go_wp2_with fail
    go_ret
    exact ⟨rfl, HK1.out⟩
  by_cases q2 : 3000 < size
  · go_enter Tryz.func5, Tryz.ntmps5
    go_wp2_with fail
    refine HK.out.mono ?_
    rintro e w1 ⟨rfl, hk⟩
    have HK1 := Lib.hid hk
    clear hk
    go_wp2_with fail
    go_ret
    exact ⟨rfl, HK1.out⟩
  by_cases q3 : beside < -3
  · go_enter Tryz.func5, Tryz.ntmps5
    go_wp2_with fail
    refine HK.out.mono ?_
    rintro e w1 ⟨rfl, hk⟩
    have HK1 := Lib.hid hk
    clear hk
    go_wp2_with fail
    go_ret
    exact ⟨rfl, HK1.out⟩
  by_cases q4 : 3 < beside
  · go_enter Tryz.func5, Tryz.ntmps5
    go_wp2_with fail
    refine HK.out.mono ?_
    rintro e w1 ⟨rfl, hk⟩
    have HK1 := Lib.hid hk
    clear hk
    go_wp2_with fail
    go_ret
    exact ⟨rfl, HK1.out⟩
  by_cases q5 : n < 0
  · go_enter Tryz.func5, Tryz.ntmps5
    go_wp2_with fail
    refine HK.out.mono ?_
    rintro e w1 ⟨rfl, hk⟩
    have HK1 := Lib.hid hk
    clear hk
    go_wp2_with fail
    go_ret
    exact ⟨rfl, HK1.out⟩
  have q6 : 210 < n := by omega
  go_enter Tryz.func5, Tryz.ntmps5
  go_wp2_with fail
  refine HK.out.mono ?_
  rintro e w1 ⟨rfl, hk⟩
  have HK1 := Lib.hid hk
  clear hk
  go_wp2_with fail
  go_ret
  exact ⟨rfl, HK1.out⟩

/-- What a round of StoreFills finds. -/
structure FI (w wr : World) (lv mv : Value) (L : List Act4) (M : List Chg) (B0 j : Nat) : Prop where
  lo : wr.ownsRow w.heap.size 39 5 lv L.length (actCells L)
  mo : wr.ownsRow B0 55 3 mv M.length (chgCells M)
  lin : ∀ x ∈ L, Act4In wr x
  lsep : ∀ x ∈ L, ∀ a, x.A = some a → a.block < B0 ∧ lv.ownBlock ≠ some a.block
  msep : ∀ b, mv.ownBlock = some b → lv.ownBlock ≠ some b
  mkey : ∀ x ∈ M, x.k.length ≤ 2 ∧ x.v.length ≤ 2
  ml : M.length < 100
  ll : L.length ≤ 3 + j
  b0 : w.heap.size ≤ B0 ∧ B0 ≤ wr.heap.size
  keep : Keeps [] w wr

theorem Act4In.keep {w w' : World} {x : Act4} {bs : List Nat} (h : Act4In w x) (hk : Keeps bs w w') (hb : ∀ a, x.A = some a → a.block ∉ bs) : Act4In w' x := ⟨h.chgs.keep hk hb, h.len, h.i0, h.i1, h.i3, h.i4⟩

theorem FI.grow {w wr w' : World} {lv mv : Value} {L : List Act4} {M : List Chg} {B0 j : Nat} (h : FI w wr lv mv L M B0 j) (hk : Keeps [] wr w') : FI w w' lv mv L M B0 j :=
  ⟨own_keep h.lo hk (by simp), own_keep h.mo hk (by simp), fun x hx => (h.lin x hx).grow hk, h.lsep, h.msep, h.mkey, h.ml, h.ll, ⟨h.b0.1, Nat.le_trans h.b0.2 hk.size⟩, h.keep.trans' hk⟩

/-- One more change. -/
theorem FI.many {w wr w6 : World} {lv mv v6 : Value} {L : List Act4} {M : List Chg} {B0 j : Nat} (h : FI w wr lv mv L M B0 j) (x : Chg) (hx : x.k.length ≤ 2 ∧ x.v.length ≤ 2)
    (ho : w6.ownsRow B0 55 3 v6 (M.length + 1) (chgCells M ++ [sv x.k, sv x.v, .bool x.g])) (hg : wr.grownBy w6 mv.ownBlock) (hs : v6.ownBlock = mv.ownBlock ∨ v6.ownBlock = some wr.heap.size) :
    w6.ownsRow w.heap.size 39 5 lv L.length (actCells L) ∧ w6.ownsRow B0 55 3 v6 (M ++ [x]).length (chgCells (M ++ [x])) ∧ (∀ y ∈ L, Act4In w6 y) ∧ (∀ b, v6.ownBlock = some b → lv.ownBlock ≠ some b) ∧ (∀ y ∈ M ++ [x], y.k.length ≤ 2 ∧ y.v.length ≤ 2) ∧ Keeps [] w w6 ∧ wr.heap.size ≤ w6.heap.size := by
  have hk : Keeps mv.ownBlock.toList wr w6 := Keeps.of_grown hg (fun y hy => .inl (by simp [hy]))
  have hmb : ∀ b, mv.ownBlock = some b → B0 ≤ b ∧ b < wr.heap.size := fun b hb => h.mo.lt b hb
  refine ⟨own_keep h.lo hk (fun b hb hm => ?_), ?_, fun y hy => (h.lin y hy).keep hk (fun a ha hm => ?_), fun b hb => ?_, fun y hy => ?_, h.keep.trans hk (fun y hy => .inr ?_), hk.size⟩
  · exact h.msep b (by simpa using hm) hb
  · rw [chgCells_app, List.length_append]; exact ho
  · have h1 := (h.lsep y hy a ha).1
    have h2 := (hmb a.block (by simpa using hm)).1
    omega
  · rcases hs with hs | hs
    · rw [hs] at hb; exact h.msep b hb
    · rw [hs] at hb
      injection hb with hb
      intro e
      have := (h.lo.lt b e).2
      omega
  · rcases List.mem_append.1 hy with hy | hy
    · exact h.mkey y hy
    · rw [List.mem_singleton.1 hy]; exact hx
  · have := (hmb y (by simpa using hy)).1
    have := h.b0.1
    omega

/-- One more act. -/
theorem FI.acts {w w6 w8 X : World} {lv v8 : Value} {A : Option Addr} {c : Nat} {L E : List Act4} {M : List Chg} {B0 : Nat} (lo : w6.ownsRow w.heap.size 39 5 lv L.length (actCells L)) (mo : w6.ownsRow B0 55 3 (.slice A M.length c) M.length (chgCells M)) (lin : ∀ y ∈ L, Act4In w6 y) (msep : ∀ b, (Value.slice A M.length c).ownBlock = some b → lv.ownBlock ≠ some b) (lsep : ∀ y ∈ L, ∀ a, y.A = some a → a.block < B0 ∧ lv.ownBlock ≠ some a.block)
    (mkey : ∀ y ∈ M, y.k.length ≤ 2 ∧ y.v.length ≤ 2) (ml : M.length ≤ 100) (hb0 : B0 ≤ w6.heap.size) (hB : w.heap.size ≤ B0) (keep : Keeps [] w w6) (hX : Keeps [] w6 X)
    (ho : w8.ownsRow w.heap.size 39 5 v8 (L.length + (1 + E.length)) (actCells L ++ actCells (⟨1, 0, A, c, M, 0, 0⟩ :: E))) (hE : ∀ y ∈ E, y.A = none ∧ y.l = [] ∧ I64 y.kind ∧ I64 y.n ∧ I64 y.keep ∧ I64 y.torn) (hg : X.grownBy w8 lv.ownBlock) (hs : v8.ownBlock = lv.ownBlock ∨ v8.ownBlock = some X.heap.size) :
    w8.ownsRow w.heap.size 39 5 v8 (L ++ ⟨1, 0, A, c, M, 0, 0⟩ :: E).length (actCells (L ++ ⟨1, 0, A, c, M, 0, 0⟩ :: E)) ∧ (∀ y ∈ L ++ ⟨1, 0, A, c, M, 0, 0⟩ :: E, Act4In w8 y) ∧ (∀ y ∈ L ++ ⟨1, 0, A, c, M, 0, 0⟩ :: E, ∀ a, y.A = some a → a.block < w8.heap.size ∧ v8.ownBlock ≠ some a.block) ∧ Keeps [] w w8 := by
  have hk : Keeps lv.ownBlock.toList X w8 := Keeps.of_grown hg (fun y hy => .inl (by simp [hy]))
  have hsz := hX.size
  have hsz2 := hk.size
  have hav : ∀ a, A = some a → a.block < w6.heap.size ∧ lv.ownBlock ≠ some a.block := fun a ha => by
    subst ha
    exact ⟨(mo.lt _ rfl).2, msep _ rfl⟩
  have hv8 : ∀ b, b < w6.heap.size → lv.ownBlock ≠ some b → v8.ownBlock ≠ some b := fun b hb hn => by
    rcases hs with hs | hs
    · rw [hs]; exact hn
    · rw [hs]
      intro e
      injection e with e
      omega
  have hin : Act4In w6 ⟨1, 0, A, c, M, 0, 0⟩ := ⟨chgs_of_own mo rfl (fun y hy => by have := mkey y hy; omega), by show M.length ≤ _; omega, (by show I64 1; decide), (by show I64 0; decide), (by show I64 0; decide), (by show I64 0; decide)⟩
  refine ⟨?_, fun y hy => ?_, fun y hy a ha => ?_, (keep.trans' hX).trans hk (fun y hy => .inr (lo.lt y (by simpa using hy)).1)⟩
  · rw [actCells_app, List.length_append, List.length_cons, show E.length + 1 = 1 + E.length by omega]; exact ho
  · rcases List.mem_append.1 hy with hy | hy
    · exact ((lin y hy).grow hX).keep hk (fun a ha hm => (lsep y hy a ha).2 (by simpa using hm))
    · rcases List.mem_cons.1 hy with rfl | hy
      · exact (hin.grow hX).keep hk (fun a ha hm => (hav a ha).2 (by simpa using hm))
      · obtain ⟨e1, e2, e3, e4, e5, e6⟩ := hE y hy
        exact ⟨by rw [e2]; exact ⟨rfl, fun i z hz => by simp at hz⟩, by rw [e2]; simp, e3, e4, e5, e6⟩
  · rcases List.mem_append.1 hy with hy | hy
    · obtain ⟨q1, q2⟩ := lsep y hy a ha
      exact ⟨by omega, hv8 _ (by omega) q2⟩
    · rcases List.mem_cons.1 hy with rfl | hy
      · obtain ⟨q1, q2⟩ := hav a ha
        exact ⟨by omega, hv8 _ q1 q2⟩
      · rw [(hE y hy).1] at ha; cases ha

/-- At the start. -/
theorem fi_start (w w3 : World) (xs : List UInt8) (hk : Keeps [] w w3) (hx : xs.length ≤ 9223372036854775807) :
    FI w (((w3.alloc (.cells #[sv [107], sv xs, .bool false] 55)).alloc (.cells #[sv [107], sv [], .bool true] 55)).alloc (.cells #[.int .i64 1, .int .i64 0, .slice (some ⟨w3.heap.size, 0, none⟩) 1 1, .int .i64 0, .int .i64 0, .int .i64 5, .int .i64 0, .slice none 0 0, .int .i64 0, .int .i64 0, .int .i64 1, .int .i64 0, .slice (some ⟨w3.heap.size + 1, 0, none⟩) 1 1, .int .i64 0, .int .i64 0] 39))
      (.slice (some ⟨w3.heap.size + 1 + 1, 0, none⟩) 3 3) (.slice none 0 0) [⟨1, 0, some ⟨w3.heap.size, 0, none⟩, 1, [⟨[107], xs, false⟩], 0, 0⟩, ⟨5, 0, none, 0, [], 0, 0⟩, ⟨1, 0, some ⟨w3.heap.size + 1, 0, none⟩, 1, [⟨[107], [], true⟩], 0, 0⟩] [] (w3.heap.size + 1 + 1) 0 := by
  have z := hk.size
  have c1 := chg_one w3 ⟨[107], xs, false⟩ (by simp) hx
  have c2 := chg_one (w3.alloc (.cells #[sv [107], sv xs, .bool false] 55)) ⟨[107], [], true⟩ (by simp) (by simp)
  rw [World.size_alloc] at c2
  refine ⟨?_, World.ownsRow_nil _ _ _ _, fun x hx => ?_, fun x hx a ha => ?_, (fun b hb => by cases hb), (fun x hx => by simp at hx), by simp, by simp, ⟨by omega, by simp⟩, ((hk.alloc _).alloc _).alloc _⟩
  · have := own_lit ((w3.alloc (.cells #[sv [107], sv xs, .bool false] 55)).alloc (.cells #[sv [107], sv [], .bool true] 55)) #[.int .i64 1, .int .i64 0, .slice (some ⟨w3.heap.size, 0, none⟩) 1 1, .int .i64 0, .int .i64 0, .int .i64 5, .int .i64 0, .slice none 0 0, .int .i64 0, .int .i64 0, .int .i64 1, .int .i64 0, .slice (some ⟨w3.heap.size + 1, 0, none⟩) 1 1, .int .i64 0, .int .i64 0] 39 5 3 rfl (by decide)
    rw [World.size_alloc, World.size_alloc] at this
    exact this.mono (by omega)
  · rcases List.mem_cons.1 hx with rfl | hx
    · exact ⟨(c1.grow ((Keeps.refl [] _).alloc _)).grow ((Keeps.refl [] _).alloc _), by simp, (by show I64 1; decide), (by show I64 0; decide), (by show I64 0; decide), (by show I64 0; decide)⟩
    · rcases List.mem_cons.1 hx with rfl | hx
      · exact ⟨⟨rfl, fun i z hz => by simp at hz⟩, by simp, (by show I64 5; decide), (by show I64 0; decide), (by show I64 0; decide), (by show I64 0; decide)⟩
      · rw [List.mem_singleton.1 hx]
        exact ⟨c2.grow ((Keeps.refl [] _).alloc _), by simp, (by show I64 1; decide), (by show I64 0; decide), (by show I64 0; decide), (by show I64 0; decide)⟩
  · simp only [Value.ownBlock]
    rcases List.mem_cons.1 hx with rfl | hx
    · injection ha with ha; subst ha; exact ⟨by show w3.heap.size < _; omega, by simp; omega⟩
    · rcases List.mem_cons.1 hx with rfl | hx
      · cases ha
      · rw [List.mem_singleton.1 hx] at ha
        injection ha with ha; subst ha; exact ⟨by show w3.heap.size + 1 < _; omega, by simp⟩

set_option maxHeartbeats 4000000 in
theorem fills_yes (size n : Nat) (beside : Int) (w : World) (h1 : 256 ≤ size) (h2 : size ≤ 3000) (h3 : -3 ≤ beside) (h4 : beside ≤ 3) (h5 : n ≤ 210) :
    Calls Tryz.prog 5 #[.int .i64 (size : Int), .int .i64 beside, .int .i64 (n : Int)] w fun e w' => e = .returned (.bool true) ∧ Keeps [] w w' := by
  have q1 : ¬ (size : Int) < 256 := by omega
  have q2 : ¬ (3000 : Int) < (size : Int) := by omega
  have q3 : ¬ beside < -3 := by omega
  have q4 : ¬ (3 : Int) < beside := by omega
  have q5 : ¬ (n : Int) < 0 := by omega
  have q6 : ¬ (210 : Int) < (n : Int) := by omega
  obtain ⟨sz, hsz⟩ : ∃ sz : Int, (size : Int) = sz := ⟨_, rfl⟩
  obtain ⟨hv, hhv⟩ : ∃ hv : Int, sz.tdiv 2 = hv := ⟨_, rfl⟩
  have hv1 : 128 ≤ hv ∧ hv ≤ 1500 := by rw [← hhv, ← hsz, Int.tdiv_eq_ediv_of_nonneg (by omega)]; omega
  have w1' : IntKind.i64.wrap (sz.tdiv 2) = hv := by rw [hhv]; exact IntWalk.i64_in _ (by omega)
  have w2' : IntKind.i64.wrap (hv - 64) = hv - 64 := IntWalk.i64_in _ (by omega)
  have w3' : IntKind.i64.wrap (hv - 64 - 17) = hv - 64 - 17 := IntWalk.i64_in _ (by omega)
  have w4' : IntKind.i64.wrap (hv - 64 - 17 + beside) = hv - 64 - 17 + beside := IntWalk.i64_in _ (by omega)
  obtain ⟨ln, hln⟩ := Int.eq_ofNat_of_zero_le (show 0 ≤ hv - 64 - 17 + beside by omega)
  have hmax : max (0 : Int) (hv - 64 - 17 + beside) = (ln : Int) := by omega
  have hlb : ln ≤ 2000 := by omega
  rw [hsz] at q1 q2 ⊢
  obtain ⟨iu, hiu, hzu0, hzu1, hzu2⟩ := info_parts u8_info
  have hib : iu.bytes * ln ≤ 281474976710656 := by rw [hzu2]; omega
  have hml : ln ≤ maxLen := by unfold maxLen; omega
  clear hln
  go_enter Tryz.func5, Tryz.ntmps5
  go_wp2_with (at_make; refine wpList_make_full _ rfl _ _ _ rfl 0 5 iu (.int .u8 0) 1 Tryz.underlying53 hiu hzu0 hzu1 .i64 .i64 _ _ ln rfl rfl rfl rfl hib hml (Nat.zero_le _) ?_; intro w3 hown hg3; have HO3 := Lib.hid (made_own hown); have cv := conv_bytes (own_bytes (made_own hown) (by simp)).1; have HK3 : Hid (Keeps [] w w3) := Keeps.of_grown hg3 (by simp); clear hown hg3)
  have hxl : (List.replicate ln (0 : UInt8)).length = ln := by simp
  clear q1 q2 q3 q4 q5 q6 w1' w2' w3' w4'
  go_wp2_with fail
  have HST := Lib.hid (fi_start w w3 (List.replicate ln (0 : UInt8)) HK3.out (by rw [hxl]; omega))
  obtain ⟨ia, hia, ha0, ha1, ha2⟩ := info_parts act_info
  obtain ⟨ic, hic, hc0, hc1, hc2⟩ := info_parts change_info
  clear cv
  go_loopw [8, 9, 10] (fun lv mv i wr => ∃ (j : Nat) (L : List Act4) (M : List Chg) (B0 : Nat), i = .int .i64 (j : Int) ∧ j ≤ n ∧ Hid (FI w wr lv mv L M B0 j)) (fun _ _ i _ => n - (intOf i).toNat)
  case atStart => exact ⟨0, _, _, _, rfl, Nat.zero_le _, HST.out⟩
  case round =>
    obtain ⟨j, L, M, B0, rfl, hj, HI⟩ := hrel
    obtain ⟨MA, mc, rfl⟩ := own_slice HI.out.mo
    obtain ⟨LA, lc, rfl⟩ := own_slice HI.out.lo
    have hMl := HI.out.ml
    have hLl := HI.out.ll
    by_cases hlt : j < n
    · obtain ⟨y1, hy1⟩ : ∃ y : UInt8, (y.toNat : Int) = 97 + (j : Int) / 20 := ⟨UInt8.ofNat (97 + j / 20), by rw [UInt8.toNat_ofNat']; omega⟩
      obtain ⟨y2, hy2⟩ : ∃ y : UInt8, (y.toNat : Int) = 97 + (j : Int) % 20 := ⟨UInt8.ofNat (97 + j % 20), by rw [UInt8.toNat_ofNat']; omega⟩
      have ct := conv_bytes (two_at wr y1 y2)
      rw [hy1, hy2] at ct
      clear hy1 hy2
      by_cases h100 : M.length + 1 = 100
      · have h100' : (M.length : Int) + 1 = 100 := by omega
        have H100 := Lib.hid h100
        clear h100
        go_wp2_with (first
          | (at_builtin; refine wpList_append_opt rfl (.tmp 57) (.tmp 69) 35 rfl B0 55 ic _ 3 40 Tryz.underlying35 hic hc0 hc1 hc2 rfl (by decide) (.slice MA M.length mc) M.length (chgCells M) rfl (HI.out.mo.alloc _ |>.alloc _) (some ⟨wr.heap.size + 1, 0, none⟩) 1 1 [sv [y1, y2], sv [], .bool false] rfl rfl (by have h := src_lit (wr.alloc (.cells #[.int .u8 (97 + (j : Int) / 20), .int .u8 (97 + (j : Int) % 20)] 5)) #[sv [y1, y2], sv [], .bool false] 55 1; rw [World.size_alloc] at h; exact h) (by simp [Value.oneCell']) (by unfold maxLen; omega) (by omega) (by have := HI.out.b0.2; simp; omega) ?_; intro v6 w6 ho hg hs; obtain ⟨VA, vc, hVA⟩ := own_slice ho; subst hVA; have HX := Lib.hid ((HI.out.grow (((Keeps.refl [] wr).alloc (.cells #[.int .u8 (97 + (j : Int) / 20), .int .u8 (97 + (j : Int) % 20)] 5)).alloc (.cells #[sv [y1, y2], sv [], .bool false] 55))).many ⟨[y1, y2], [], false⟩ (by simp) ho hg hs); clear ho hg hs)
          | (at_builtin; refine wpList_append_opt rfl (.tmp 74) (.tmp 77) 22 rfl w.heap.size 39 ia _ 5 56 Tryz.underlying22 hia ha0 ha1 ha2 rfl (by decide) (.slice LA L.length lc) L.length (actCells L) rfl (HX.out.1.alloc _) (some ⟨w6.heap.size, 0, none⟩) 1 1 [.int .i64 1, .int .i64 0, .slice VA (M.length + 1) vc, .int .i64 0, .int .i64 0] rfl rfl (src_lit w6 #[.int .i64 1, .int .i64 0, .slice VA (M.length + 1) vc, .int .i64 0, .int .i64 0] 39 1) (by simp [Value.oneCell']) (by unfold maxLen; omega) (by omega) (by have := HX.out.2.2.2.2.2.1.size; simp; omega) ?_; intro v8 w8 ho hg hs; have HO8 := Lib.hid ho; have HG8 := Lib.hid hg; have HS8 := Lib.hid hs; clear ho hg hs))
        have hl1 : (M ++ [(⟨[y1, y2], [], false⟩ : Chg)]).length = M.length + 1 := by simp
        have F := FI.acts (A := VA) (c := vc) (E := []) (M := M ++ [⟨[y1, y2], [], false⟩]) (X := w6.alloc (.cells #[.int .i64 1, .int .i64 0, .slice VA (M.length + 1) vc, .int .i64 0, .int .i64 0] 39)) HX.out.1 (by rw [hl1]; rw [hl1] at HX; exact HX.out.2.1) HX.out.2.2.1 (by rw [hl1]; exact HX.out.2.2.2.1) (HI.out.lsep) HX.out.2.2.2.2.1 (by rw [hl1]; omega) (by have := HX.out.2.2.2.2.2.2; have := HI.out.b0.2; simp at *; omega) HI.out.b0.1 HX.out.2.2.2.2.2.1 ((Keeps.refl [] w6).alloc _) (by simpa [actCells] using HO8.out) (fun y hy => by simp at hy) HG8.out HS8.out
        have FF := Lib.hid F
        clear F
        go_roundw
        case rel => exact ⟨j + 1, L ++ [⟨1, 0, VA, vc, M ++ [⟨[y1, y2], [], false⟩], 0, 0⟩], [], w8.heap.size, by go_num, by omega, FF.out.1, World.ownsRow_nil _ _ _ _, FF.out.2.1, FF.out.2.2.1, (fun b hb => by cases hb), (fun x hx => by simp at hx), by simp, by simp; omega, ⟨FF.out.2.2.2.size, Nat.le_refl _⟩, FF.out.2.2.2⟩
        case measure => simp [intOf]; omega
      · have h100' : ¬ (M.length : Int) + 1 = 100 := by omega
        go_wp2_with (at_builtin; refine wpList_append_opt rfl (.tmp 57) (.tmp 69) 35 rfl B0 55 ic _ 3 40 Tryz.underlying35 hic hc0 hc1 hc2 rfl (by decide) (.slice MA M.length mc) M.length (chgCells M) rfl (HI.out.mo.alloc _ |>.alloc _) (some ⟨wr.heap.size + 1, 0, none⟩) 1 1 [sv [y1, y2], sv [], .bool false] rfl rfl (by have h := src_lit (wr.alloc (.cells #[.int .u8 (97 + (j : Int) / 20), .int .u8 (97 + (j : Int) % 20)] 5)) #[sv [y1, y2], sv [], .bool false] 55 1; rw [World.size_alloc] at h; exact h) (by simp [Value.oneCell']) (by unfold maxLen; omega) (by omega) (by have := HI.out.b0.2; simp; omega) ?_; intro v6 w6 ho hg hs; obtain ⟨VA, vc, hVA⟩ := own_slice ho; subst hVA; have HX := Lib.hid ((HI.out.grow (((Keeps.refl [] wr).alloc (.cells #[.int .u8 (97 + (j : Int) / 20), .int .u8 (97 + (j : Int) % 20)] 5)).alloc (.cells #[sv [y1, y2], sv [], .bool false] 55))).many ⟨[y1, y2], [], false⟩ (by simp) ho hg hs); clear ho hg hs)
        go_roundw
        case rel => exact ⟨j + 1, L, M ++ [⟨[y1, y2], [], false⟩], B0, by go_num, by omega, HX.out.1, (by have h := HX.out.2.1; simpa using h), HX.out.2.2.1, HI.out.lsep, HX.out.2.2.2.1, HX.out.2.2.2.2.1, by simp; omega, by omega, ⟨HI.out.b0.1, by have := HX.out.2.2.2.2.2.2; have := HI.out.b0.2; simp at *; omega⟩, HX.out.2.2.2.2.2.1⟩
        case measure => simp [intOf]; omega
    · obtain rfl : j = n := by omega
      have hb2 := HI.out.keep.size
      go_wp2_with (at_builtin; refine wpList_append_opt rfl (.tmp 79) (.tmp 83) 22 rfl w.heap.size 39 ia _ 5 56 Tryz.underlying22 hia ha0 ha1 ha2 rfl (by decide) (.slice LA L.length lc) L.length (actCells L) rfl (HI.out.lo.alloc _) (some ⟨wr.heap.size, 0, none⟩) 2 2 [.int .i64 1, .int .i64 0, .slice MA M.length mc, .int .i64 0, .int .i64 0, .int .i64 4, .int .i64 0, .slice none 0 0, .int .i64 0, .int .i64 0] rfl rfl (src_lit wr #[.int .i64 1, .int .i64 0, .slice MA M.length mc, .int .i64 0, .int .i64 0, .int .i64 4, .int .i64 0, .slice none 0 0, .int .i64 0, .int .i64 0] 39 2) (by simp [Value.oneCell']) (by unfold maxLen; omega) (by omega) (by simp; omega) ?_; intro v8 w8 ho hg hs; obtain ⟨QA, qc, hQ⟩ := own_slice ho; subst hQ; have HO8 := Lib.hid ho; have HG8 := Lib.hid hg; have HS8 := Lib.hid hs; clear ho hg hs)
      have F := FI.acts (A := MA) (c := mc) (E := [⟨4, 0, none, 0, [], 0, 0⟩]) (X := wr.alloc (.cells #[.int .i64 1, .int .i64 0, .slice MA M.length mc, .int .i64 0, .int .i64 0, .int .i64 4, .int .i64 0, .slice none 0 0, .int .i64 0, .int .i64 0] 39)) HI.out.lo HI.out.mo HI.out.lin HI.out.msep HI.out.lsep HI.out.mkey (by omega) HI.out.b0.2 HI.out.b0.1 HI.out.keep ((Keeps.refl [] wr).alloc _) (by simpa [actCells] using HO8.out) (fun y hy => by rw [List.mem_singleton.1 hy]; exact ⟨rfl, rfl, (by show I64 4; decide), (by show I64 0; decide), (by show I64 0; decide), (by show I64 0; decide)⟩) HG8.out HS8.out
      have hl2 : (L ++ [(⟨1, 0, MA, mc, M, 0, 0⟩ : Act4), ⟨4, 0, none, 0, [], 0, 0⟩]).length = L.length + 2 := by simp
      have hown := F.1
      rw [hl2] at hown
      have HAC := Lib.hid (acts_of_own hown hl2 F.2.1)
      have HK8 := Lib.hid F.2.2.2
      have hbig : L.length + 2 ≤ 9223372036854775807 := by omega
      clear F hown hl2
      refine (play_keeps sz QA (L.length + 2) qc _ w8 HAC.out hbig).mono ?_
      rintro e w9 ⟨rfl, hk9⟩
      have HK9 := Lib.hid (HK8.out.trans' hk9)
      have HAC9 := Lib.hid (HAC.out.grow hk9)
      clear hk9
      go_wp2_with fail
      refine (play_keeps 12000 QA (L.length + 2) qc _ w9 HAC9.out hbig).mono ?_
      rintro e w10 ⟨rfl, hk10⟩
      have HK10 := Lib.hid (HK9.out.trans' hk10)
      clear hk10
      go_wp2_with fail
      go_ret
      exact ⟨rfl, HK10.out⟩

theorem storefills_any (size beside n : Int) (w : World) (h1 : I64 size) (h2 : I64 beside) (h3 : I64 n) :
    Calls Tryz.prog 5 #[.int .i64 size, .int .i64 beside, .int .i64 n] w fun e w' => e = .returned (.bool true) ∧ Below w.heap.size w w' := by
  have key : Calls Tryz.prog 5 #[.int .i64 size, .int .i64 beside, .int .i64 n] w fun e w' => e = .returned (.bool true) ∧ Keeps [] w w' := by
    by_cases h : size < 256 ∨ 3000 < size ∨ beside < -3 ∨ 3 < beside ∨ n < 0 ∨ 210 < n
    · exact fills_no size beside n w h1 h2 h3 h
    · obtain ⟨s, rfl⟩ := Int.eq_ofNat_of_zero_le (show 0 ≤ size by omega)
      obtain ⟨m, rfl⟩ := Int.eq_ofNat_of_zero_le (show 0 ≤ n by omega)
      exact fills_yes s m beside w (by omega) (by omega) (by omega) (by omega) (by omega)
  exact key.mono fun e w' ⟨he, hk⟩ => ⟨he, hk.below (Nat.le_refl _) (by simp)⟩

end Go.Proofs.YtikfpkeffmbnpaaGreat
