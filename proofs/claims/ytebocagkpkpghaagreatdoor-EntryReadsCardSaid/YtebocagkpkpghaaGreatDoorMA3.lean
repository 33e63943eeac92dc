/- Texts of one proof, laid together: Y8 Y9. -/
import Derived.Test.YtebocagkpkpghaaGreatDoorMA2
import Derived.BigQuiet
/- entry: Read; as words and walked. -/
namespace Go.Proofs.YtebocagkpkpghaaGreatDoor
open Go.RowKit Go.Shelf
set_option linter.unusedVariables false
set_option linter.unusedSimpArgs false
set_option maxRecDepth 100000

theorem valsL_less (n : Int) : ∀ (f : Nat) (acc : List Txt) (r : Rd), (valsL n f acc r).2.2 = false → (valsL n f acc r).2.1.length ≤ r.1.length ∧ r.2 = false
  | 0, acc, r, h => ⟨Nat.le_refl _, h⟩
  | f + 1, acc, r, h => by
    unfold valsL at h ⊢
    split at h
    · rename_i hc
      rw [if_pos hc]
      have h1 := valsL_less n f _ _ h
      have h2 := valS_less h1.2
      exact ⟨by omega, h2.2⟩
    · rename_i hc
      rw [if_neg hc]
      exact ⟨Nat.le_refl _, h⟩
theorem valsL_count (n : Int) : ∀ (f : Nat) (acc : List Txt) (r : Rd), (valsL n f acc r).1.length ≤ acc.length + f
  | 0, acc, r => by unfold valsL; simp
  | f + 1, acc, r => by
    unfold valsL
    split
    · have := valsL_count n f (acc ++ [(valS r).1]) (valS r).2
      simp at this
      omega
    · simp
theorem attS_less {r : Rd} (h : (attS r).2.2 = false) : (attS r).2.1.length < r.1.length ∧ r.2 = false := by
  have h' : (valsL (numS 10 (untS 32 r).2).1 (msr (numS 10 (untS 32 r).2).2) [] (numS 10 (untS 32 r).2).2).2.2 = false := h
  obtain ⟨h1, h2⟩ := valsL_less _ _ _ _ h'
  obtain ⟨h3, h4⟩ := numS_less h2
  obtain ⟨h5, h6⟩ := untS_less h4
  refine ⟨?_, h6⟩
  show (valsL (numS 10 (untS 32 r).2).1 (msr (numS 10 (untS 32 r).2).2) [] (numS 10 (untS 32 r).2).2).2.1.length < _
  omega
theorem attS_count (r : Rd) : (attS r).1.2.length ≤ r.1.length + 1 := by
  show (valsL (numS 10 (untS 32 r).2).1 (msr (numS 10 (untS 32 r).2).2) [] (numS 10 (untS 32 r).2).2).1.length ≤ _
  have h1 := valsL_count (numS 10 (untS 32 r).2).1 (msr (numS 10 (untS 32 r).2).2) [] (numS 10 (untS 32 r).2).2
  have h2 := numS_len 10 (untS 32 r).2
  have h3 := untS_len 32 r
  unfold msr at h1 ⊢
  split at h1 <;> simp_all <;> omega
theorem cutP_first (b : UInt8) (s : Txt) : (cutP b s).1.length ≤ s.length := cutP_len (b := b) s
theorem attS_name (r : Rd) : (attS r).1.1.length ≤ r.1.length := cutP_first 32 r.1
/-- The attributes that are read, till nothing is left; none where one is bad. -/
def attsL : Nat → List Att → Rd → Option (List Att)
  | 0, acc, r => some acc
  | f + 1, acc, r => if r.1 = [] then some acc else if (attS r).2.2 = true then none else attsL f (acc ++ [(attS r).1]) (attS r).2
def readP (s : Txt) : List Att × Nat :=
  match attsL (s.length + 1) [] (s, false) with
  | some e => if entOk e then (e, 0) else ([], 172)
  | none => ([], 172)
theorem attsL_next {f : Nat} {e : List Att} {r : Rd} (h : ¬ r.1 = []) : attsL (f + 1) e r = if (attS r).2.2 = true then none else attsL f (e ++ [(attS r).1]) (attS r).2 := by
  show (if r.1 = [] then _ else _) = _
  rw [if_neg h]
theorem attsL_few {N : Nat} : ∀ (f : Nat) {acc e : List Att} {r : Rd}, attsL f acc r = some e → (∀ a ∈ acc, a.2.length ≤ N) → r.1.length + 1 ≤ N → e.length ≤ acc.length + f ∧ ∀ a ∈ e, a.2.length ≤ N
  | 0, acc, e, r, h, ha, hr => by
    injection h with h
    rw [← h]
    exact ⟨Nat.le_refl _, ha⟩
  | f + 1, acc, e, r, h, ha, hr => by
    unfold attsL at h
    split at h
    · injection h with h
      rw [← h]
      exact ⟨by omega, ha⟩
    · split at h
      · cases h
      · rename_i hb
        have h1 := attS_less (r := r) (by simpa using hb)
        have h2 := attS_count r
        obtain ⟨h3, h4⟩ := attsL_few f h (fun x hx => by
          rcases List.mem_append.1 hx with hx | hx
          · exact ha x hx
          · rw [List.mem_singleton.1 hx]; omega) (by omega)
        simp at h3
        exact ⟨by omega, h4⟩
theorem attsL_end {f : Nat} {e : List Att} {r : Rd} (h : r.1 = []) : attsL f e r = some e := by
  cases f with
  | zero => rfl
  | succ f => show (if r.1 = [] then _ else _) = _; rw [if_pos h]
/-- What a round of the reading finds. -/
structure ReS (w wr : World) (G : Nat) (A : Option Addr) (j c : Nat) (L : List At7) (e : List Att) (r : Rd) : Prop where
  s : EntS w wr A j c L e
  at_ : RdAt wr G r.1 r.2
  lo : w.heap.size ≤ G
  few : ∀ a ∈ L, a.n ≤ 3000000
theorem ReS.next {w wr w3 w5 : World} {G : Nat} {A A2 A5 : Option Addr} {j c m c2 c5 : Nat} {L : List At7} {e : List Att} {r q : Rd} {nm : Txt} {vs : List Txt} (h : ReS w wr G A j c L e r)
    (h3 : RdW wr w3 G q) (hr : w3.ownsRow wr.heap.size 9 1 (.slice A2 m c2) m (vs.map tv)) (hl : vs.length = m) (ht : ∀ s ∈ vs, s.length ≤ 9223372036854775807) (hn : nm.length ≤ 9223372036854775807) (hm : m ≤ 3000000)
    (hg : (w3.alloc (.cells #[tv nm, .slice A2 m c2] 59)).grownBy w5 (Value.slice A j c).ownBlock) (ho : w5.ownsRow w.heap.size 59 2 (.slice A5 (j + 1) c5) (j + 1) (atCells L ++ [tv nm, .slice A2 m c2])) :
    ReS w w5 G A5 (j + 1) c5 (L ++ [⟨nm, A2, m, c2, vs⟩]) (e ++ [(nm, vs)]) q := by
  have hnR := own_apart h.s.row h.at_ (by decide)
  have k4 : Keeps [G] wr (w3.alloc (.cells #[tv nm, .slice A2 m c2] 59)) := h3.keep.alloc _
  have hrow4 := own_keep h.s.row k4 (fun b hb hm => hnR b hb (List.mem_singleton.1 hm))
  have kw4 : Keeps [] w (w3.alloc (.cells #[tv nm, .slice A2 m c2] 59)) := h.s.keep.trans k4 (fun x hx => .inr (by rw [List.mem_singleton.1 hx]; exact h.lo))
  have at4 : RdAt (w3.alloc (.cells #[tv nm, .slice A2 m c2] 59)) G q.1 q.2 := h3.at_.keep ((Keeps.refl [] w3).alloc _)
  have hnG := own_apart hrow4 at4 (by decide)
  have hro5 : RowOk (w3.alloc (.cells #[tv nm, .slice A2 m c2] 59)) w.heap.size ⟨nm, A2, m, c2, vs⟩ := ⟨own_keep (own_base7 hr (h.s.keep).size) ((Keeps.refl [] w3).alloc _) (by simp), hl, ht, hn⟩
  refine ⟨⟨?_, by rw [List.length_append, h.s.len]; rfl, by rw [atCells_snoc]; exact ho, fun x hx => ?_, keeps_own7 hrow4 kw4 hg⟩, ?_, h.lo, fun x hx => ?_⟩
  · rw [← h.s.ents]
    simp [ents, At7.att]
  · rcases List.mem_append.1 hx with hx | hx
    · exact ((h.s.rows x hx).keep k4 (fun b hb hm => own_apart (h.s.rows x hx).row h.at_ (by decide) b hb (List.mem_singleton.1 hm))).beside hrow4 hg
    · simp at hx
      subst hx
      exact hro5.beside hrow4 hg
  · exact blk_keep at4 (Keeps.of_grown (bs := (Value.slice A j c).ownBlock.toList) hg (fun x hx => .inl (by rw [hx]; simp))) (fun hm => hnG G (by simpa using hm) rfl)
  · rcases List.mem_append.1 hx with hx | hx
    · exact h.few x hx
    · rw [List.mem_singleton.1 hx]; exact hm
set_option maxHeartbeats 8000000 in
theorem read_is (s : Txt) (w : World) (hs : s.length ≤ 2000000) (hE : ∀ e, attsL (s.length + 1) [] (s, false) = some e → e.length ≤ 100000 ∧ ∀ a ∈ e, a.2.length ≤ 100000) (hN : NumW w) :
    Calls Tryz.prog 26 #[tv s] w (EnrQ (readP s) w) := by
  obtain ⟨iu, hiu, hzu0, hzu1, hzu2⟩ := info_parts attr_info7
  have HN := Lib.hid hN
  have HEF := Lib.hid hE
  clear hE
  obtain ⟨P, hP⟩ : ∃ P, readP s = P := ⟨_, rfl⟩
  have HP : Hid ((match attsL (s.length + 1) [] (s, false) with | some e => if entOk e then (e, 0) else ([], 172) | none => ([], 172)) = P) := hP
  rw [hP]
  clear hP hN
  unfold tv
  go_enter Tryz.func26, Tryz.ntmps26
  go_wp2_with fail
  refine wp_scope_once 0 rfl ?_
  go_wp2_with fail
  have HB0 := Lib.hid (heap_new8 w (.cells #[.string ⟨s.toArray⟩, .bool false] 92))
  have HK0 : Hid (Keeps [] w (w.alloc (.cells #[.string ⟨s.toArray⟩, .bool false] 92))) := (Keeps.refl [] w).alloc _
  obtain ⟨G, hG⟩ : ∃ G, w.heap.size = G := ⟨_, rfl⟩
  have HLO : Hid (w.heap.size ≤ G) := by show _ ≤ _; omega
  rw [hG] at HB0 ⊢
  clear hG
  generalize w.alloc (.cells #[.string ⟨s.toArray⟩, .bool false] 92) = W0 at HB0 HK0 ⊢
  go_loopw [4] (fun d wr => ∃ (A : Option Addr) (c j f : Nat) (L : List At7) (e : List Att) (T : Txt), d = .slice A j c ∧ j + T.length ≤ 2000000 ∧ Hid (ReS w wr G A j c L e (T, false)) ∧ Hid (T.length < f) ∧ Hid (attsL (s.length + 1) [] (s, false) = attsL f e (T, false))) (fun _ wr => msrW G wr)
  case atStart => exact ⟨none, 0, 0, s.length + 1, [], [], s, rfl, by omega, ⟨⟨rfl, rfl, World.ownsRow_nil _ _ _ _, by simp, HK0.out⟩, HB0.out, HLO.out, by simp⟩, Nat.lt_succ_self _, rfl⟩
  case round =>
    obtain ⟨A, c, j, f, L, e, T, rfl, hjt, HS, HF, HV⟩ := hrel
    have HMU := Lib.hid (msrW_is HS.out.at_)
    obtain ⟨⟨d0, d1⟩, df0, df1⟩ := RdAt.cells HS.out.at_
    obtain ⟨z, hz⟩ : ∃ z, (T == ([] : Txt)) = z := ⟨_, rfl⟩
    obtain ⟨hs1, hs2, hs3⟩ := tx_beq T [] z hz
    cases z
    · have hne : ¬ T = [] := by simpa using hz
      have HTL : Hid (T.length ≤ 2000000) := by show _ ≤ _; omega
      have hj9 : j ≤ 2000000 := by omega
      have HAT := Lib.hid (attr_is (w := wr) (g := G) (r := (T, false)) ⟨HS.out.at_, Keeps.refl _ _, by show T.length ≤ _; omega⟩ (HN.out.on HS.out.s.keep HS.out.lo))
      have HNM : Hid ((attS (T, false)).1.1.length ≤ 9223372036854775807) := Nat.le_trans (attS_name (T, false)) (by show T.length ≤ _; omega)
      have HCN : Hid ((attS (T, false)).1.2.length ≤ 3000000) := Nat.le_trans (attS_count (T, false)) (by show T.length + 1 ≤ _; omega)
      have HLS := Lib.hid (attS_less (r := (T, false)))
      obtain ⟨f2, rfl⟩ : ∃ f2, f = f2 + 1 := ⟨f - 1, by have := HF.out; omega⟩
      have HV2 := Lib.hid (HV.out.trans (attsL_next (r := (T, false)) hne))
      generalize attS (T, false) = at_ at HAT HNM HCN HLS HV2
      obtain ⟨⟨nm, vs⟩, ⟨T2, B2⟩⟩ := at_
      dsimp only at HAT HNM HCN HLS HV2
      unfold tv at HAT
      clear HV
      go_wp2_with fail
      refine HAT.out.mono ?_
      rintro e9 w3 ⟨A2, m, c2, rfl, hrow, hln, htx, hr3⟩
      have HX : Hid (∀ (w5 : World) (A5 : Option Addr) (c5 : Nat), (w3.alloc (.cells #[tv nm, .slice A2 m c2] 59)).grownBy w5 (Value.slice A j c).ownBlock → w5.ownsRow w.heap.size 59 2 (.slice A5 (j + 1) c5) (j + 1) (atCells L ++ [tv nm, .slice A2 m c2]) → ReS w w5 G A5 (j + 1) c5 (L ++ [⟨nm, A2, m, c2, vs⟩]) (e ++ [(nm, vs)]) (T2, B2)) :=
        fun w5 A5 c5 hg ho => HS.out.next hr3 (by unfold tv; exact hrow) hln htx HNM.out (by rw [← hln]; exact HCN.out) hg ho
      have hnR := own_apart HS.out.s.row HS.out.at_ (by decide)
      have HRW : Hid ((w3.alloc (.cells #[tv nm, .slice A2 m c2] 59)).ownsRow w.heap.size 59 2 (.slice A j c) j (atCells L)) := own_keep HS.out.s.row (hr3.keep.alloc _) (fun b hb hm => hnR b hb (List.mem_singleton.1 hm))
      have HSZ : Hid (w.heap.size ≤ (w3.alloc (.cells #[tv nm, .slice A2 m c2] 59)).heap.size) := by
        have h1 := HS.out.s.keep.size
        have h2 := (hr3.keep.alloc (.cells #[tv nm, .slice A2 m c2] 59)).size
        show _ ≤ _
        omega
      clear hrow hln htx hr3 hnR
      cases B2
      · have HL2 : Hid (T2.length < T.length) := (HLS.out rfl).1
        have HV3 : Hid (attsL (s.length + 1) [] (s, false) = attsL f2 (e ++ [(nm, vs)]) (T2, false)) := HV2.out
        clear HLS HV2
        go_wp2_with (at_builtin; refine wpList_append_opt rfl (.tmp 11) (.tmp 13) 23 rfl w.heap.size 59 iu _ 2 40 Tryz.underlying23 hiu hzu0 hzu1 hzu2 rfl (by decide) (.slice A j c) j (atCells L) rfl HRW.out (some ⟨w3.heap.size, 0, none⟩) 1 1 [tv nm, .slice A2 m c2] rfl rfl (src_at7 w3 ⟨nm, A2, m, c2, vs⟩ _) (by intro u hu; simp at hu; rcases hu with rfl | rfl <;> rfl) (by unfold maxLen; omega) (by omega) HSZ.out ?_; intro v5 w5 ho hg5 hs5; obtain ⟨A5, c5, hv5⟩ := own_slice ho; subst hv5; have HY := Lib.hid (HX.out w5 A5 c5 hg5 ho); obtain ⟨⟨x0, x1⟩, xf0, xf1⟩ := RdAt.cells HY.out.at_; clear ho hg5 hs5)
        go_roundw
        case rel => exact ⟨A5, c5, j + 1, f2, _, _, T2, rfl, by have := HL2.out; omega, HY.out, by have := HL2.out; have := HF.out; show _ < _; omega, HV3.out⟩
        case measure => rw [HMU.out, msrW_is HY.out.at_]; have := HL2.out; unfold msr; simp; omega
      · have HPN : Hid (P = ([], 172)) := by
          show _ = _
          have h9 : attsL (s.length + 1) [] (s, false) = none := HV2.out
          rw [← HP.out, h9]
        clear HLS HV2
        go_wp2_with (at_builtin; refine wpList_append_opt rfl (.tmp 11) (.tmp 13) 23 rfl w.heap.size 59 iu _ 2 40 Tryz.underlying23 hiu hzu0 hzu1 hzu2 rfl (by decide) (.slice A j c) j (atCells L) rfl HRW.out (some ⟨w3.heap.size, 0, none⟩) 1 1 [tv nm, .slice A2 m c2] rfl rfl (src_at7 w3 ⟨nm, A2, m, c2, vs⟩ _) (by intro u hu; simp at hu; rcases hu with rfl | rfl <;> rfl) (by unfold maxLen; omega) (by omega) HSZ.out ?_; intro v5 w5 ho hg5 hs5; obtain ⟨A5, c5, hv5⟩ := own_slice ho; subst hv5; have HY := Lib.hid (HX.out w5 A5 c5 hg5 ho); obtain ⟨⟨x0, x1⟩, xf0, xf1⟩ := RdAt.cells HY.out.at_; clear ho hg5 hs5)
        go_step3
        refine ⟨rfl, ?_⟩
        go_wp2
        rw [Exit.noGoto_ret]
        refine bodyPost_ret (results_tmp2 rfl _ _ _) rfl ?_
        rw [HPN.out]
        exact EnrQ.no HY.out.s.keep
    · have hne : T = [] := by simpa using hz
      subst hne
      have hv9 : attsL (s.length + 1) [] (s, false) = some e := HV.out.trans (attsL_end rfl)
      have hp9 := HP.out
      rw [hv9] at hp9
      dsimp only at hp9
      have HPE := Lib.hid hp9
      clear hp9
      obtain ⟨he1, he2⟩ := HEF.out e hv9
      have HCK := Lib.hid (check7_is A j c L wr (EntIn.of_own HS.out.s.row HS.out.s.len (fun a ha => (HS.out.s.rows a ha).fits)) ⟨by rw [← ents_len, HS.out.s.ents]; exact he1, fun a ha => by
        rw [← (HS.out.s.rows a ha).len]
        exact he2 a.att (by rw [← HS.out.s.ents]; unfold ents; exact List.mem_map_of_mem ha)⟩)
      clear he1 he2
      rw [HS.out.s.ents] at HCK
      clear hz hv9 HV HP hs1 hs2 hs3
      obtain ⟨q, hq⟩ : ∃ q, entOk e = q := ⟨_, rfl⟩
      rw [hq] at HPE HCK
      clear hq
      cases q
      · have HPN : Hid (P = ([], 172)) := HPE.out.symm
        have HCK2 : Hid (Calls Tryz.prog 15 #[.slice A j c] wr fun e w' => e = .returned (.int .i64 2) ∧ Keeps [] wr w') := HCK.out
        go_wp2_with fail
        refine HCK2.out.mono ?_
        rintro e9 w6 ⟨rfl, hk6⟩
        have HK6 := Lib.hid (HS.out.s.keep.trans' hk6)
        clear hk6
        go_wp2_with fail
        go_step3
        refine ⟨rfl, ?_⟩
        go_wp2
        rw [Exit.noGoto_ret]
        refine bodyPost_ret (results_tmp2 rfl _ _ _) rfl ?_
        rw [HPN.out]
        exact EnrQ.no HK6.out
      · have HPY : Hid (P = (e, 0)) := HPE.out.symm
        have HCK2 : Hid (Calls Tryz.prog 15 #[.slice A j c] wr fun e w' => e = .returned (.int .i64 0) ∧ Keeps [] wr w') := HCK.out
        go_wp2_with fail
        refine HCK2.out.mono ?_
        rintro e9 w6 ⟨rfl, hk6⟩
        have HK6 := Lib.hid hk6
        clear hk6
        go_wp2_with fail
        try simp only [Exit.jump]
        refine bodyPost_ret (results_tmp2 rfl _ _ _) rfl ?_
        rw [HPY.out]
        refine ⟨A, j, c, rfl, ⟨L, HS.out.s.ents, EntIn.grow HK6.out (EntIn.of_own HS.out.s.row HS.out.s.len (fun a ha => (HS.out.s.rows a ha).fits)), (own_caps HS.out.s.row).1, (own_caps HS.out.s.row).2, fun a ha => (HS.out.s.rows a ha).len⟩, HS.out.s.keep.trans' HK6.out⟩
end Go.Proofs.YtebocagkpkpghaaGreatDoor
/- entry: the document's cut; walked. -/
namespace Go.Proofs.YtebocagkpkpghaaGreatDoor
open Go.RowKit Go.Shelf
set_option linter.unusedVariables false
set_option linter.unusedSimpArgs false
set_option maxRecDepth 100000

theorem cutP_at {b : UInt8} : ∀ {T : Txt} {j : Nat}, T[j]? = some b → b ∉ T.take j → cutP b T = (T.take j, some (T.drop (j + 1)))
  | [], j, h, _ => by simp at h
  | c :: t, 0, h, _ => by
    simp at h
    unfold cutP
    rw [if_pos h]
    rfl
  | c :: t, j + 1, h, hn => by
    simp at h hn
    unfold cutP
    rw [if_neg (fun e => hn.1 e.symm), cutP_at h hn.2]
    rfl
theorem cutP_not {b : UInt8} : ∀ {T : Txt}, b ∉ T → (cutP b T).2 = none
  | [], _ => rfl
  | c :: t, h => by
    simp at h
    unfold cutP
    rw [if_neg (fun e => h.1 e.symm)]
    exact cutP_not h.2
/-- What the document's cut answers. -/
def cutD (b : UInt8) (T : Txt) : Txt × Txt × Bool := match cutP b T with
  | (a, some r) => (a, r, true)
  | (_, none) => ([], [], false)
theorem str_to7 (T : Txt) (j : Nat) (hj : j ≤ T.length) (W : World) : (Instr.slice 9 (.string ⟨T.toArray⟩) none (some (.int .i64 (j : Int))) none).run Tryz.prog W = .ok (.string ⟨(T.take j).toArray⟩) W := by
  rw [run_slice_string_to_if W 9 ⟨T.toArray⟩ .i64 (j : Int) Tryz.underlying9, if_pos ⟨by omega, by show (j : Int) ≤ (T.length : Int); omega⟩]
  rw [show ((j : Int)).toNat = j by omega, ByteArray.extract_mk]
  rfl
set_option maxHeartbeats 4000000 in
theorem rcut7_is (T : Txt) (b : UInt8) (w : World) (hT : T.length ≤ 1000000000) :
    Calls Tryz.prog 59 #[tv T, .int .u8 (b.toNat : Int)] w fun e w' => e = .returned (.tuple #[tv (cutD b T).1, tv (cutD b T).2.1, .bool (cutD b T).2.2]) ∧ Keeps [] w w' := by
  obtain ⟨P, hP⟩ : ∃ P, cutD b T = P := ⟨_, rfl⟩
  have HP := Lib.hid hP
  rw [hP]
  clear hP
  obtain ⟨n, hn⟩ : ∃ n, T.length = n := ⟨_, rfl⟩
  have HN := Lib.hid hn
  have hlen := fun W : World => (rfl : (1 : Nat) = 1)
  rw [hn] at hT
  have hls : (⟨T.toArray⟩ : ByteArray).size = n := hn
  clear hn hlen
  unfold tv
  go_enter Tryz.func59, Tryz.ntmps59
  go_wp2_with fail
  go_loopw [7] (fun i wr => ∃ j : Nat, i = .int .i64 (j : Int) ∧ j ≤ n ∧ Hid (b ∉ T.take j) ∧ Hid (Keeps [] w wr)) (fun i _ => n - (intOf i).toNat)
  case atStart => exact ⟨0, rfl, Nat.zero_le _, by simp [Hid], Keeps.refl _ _⟩
  case round =>
    obtain ⟨j, rfl, hj, HA, HKR⟩ := hrel
    by_cases hlt : j < n
    · obtain ⟨u, hu⟩ : ∃ u, T[j]? = some u := ⟨_, List.getElem?_eq_getElem (by have := HN.out; omega)⟩
      have hix := str_at T j u hu
      have HU := Lib.hid hu
      have hji : (j : Int) < (n : Int) := by omega
      have hj0 : (0 : Int) ≤ (j : Int) := by omega
      clear hu
      by_cases hub : u = b
      · subst hub
        have HC : Hid (P = (T.take j, T.drop (j + 1), true)) := by
          show _ = _
          rw [← HP.out]
          unfold cutD
          rw [cutP_at HU.out HA.out]
        have hto := str_to7 T j (by have := HN.out; omega)
        have hfr := fun W => str_from7 T (j + 1) (by have := HN.out; omega) W
        rw [show (((j + 1 : Nat) : Int)) = (j : Int) + 1 by omega] at hfr
        clear HU
        go_wp2_with fail
        go_quiet (fail)
        go_wp2_with fail
        refine bodyPost_ret (results_tmp3 rfl _ _ _) rfl ?_
        rw [HC.out]
        exact ⟨rfl, HKR.out.drewN _⟩
      · have hub1 : ¬ u.toNat = b.toNat := fun e => hub (UInt8.toNat_inj.1 e)
        have hub2 : ¬ (u.toNat : Int) = (b.toNat : Int) := by omega
        have hub3 : ((u.toNat : Int) == (b.toNat : Int)) = false := by rw [beq_eq_false_iff_ne]; exact hub2
        have HB : Hid (b ∉ T.take (j + 1)) := by
          show _ ∉ _
          rw [List.take_add_one, HU.out]
          simp
          exact ⟨HA.out, fun e => hub e.symm⟩
        clear HU
        go_wp2_with fail
        go_roundw
        case rel => exact ⟨j + 1, by go_num, by omega, HB.out, HKR.out⟩
        case measure => simp [intOf]; omega
    · obtain rfl : j = n := by omega
      have h9 := HA.out
      rw [List.take_of_length_le (by rw [HN.out]; exact Nat.le_refl _)] at h9
      have HC : Hid (P = ([], [], false)) := by
        show _ = _
        rw [← HP.out]
        unfold cutD
        have h8 := cutP_not h9
        generalize cutP b T = p at h8
        obtain ⟨x, y⟩ := p
        cases y with
        | none => rfl
        | some y => cases h8
      clear h9
      go_wp2_with fail
      refine bodyPost_ret (results_tmp3 rfl _ _ _) rfl ?_
      rw [HC.out]
      exact ⟨rfl, HKR.out⟩
end Go.Proofs.YtebocagkpkpghaaGreatDoor
