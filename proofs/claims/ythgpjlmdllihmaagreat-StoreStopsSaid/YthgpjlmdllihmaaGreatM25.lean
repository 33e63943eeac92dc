/- Texts of one proof, laid together: U29 U30. -/
import Derived.Test.YthgpjlmdllihmaaGreatM24
import Derived.Test.YthgpjlmdllihmaaGreatM12
/- All. -/
namespace Go.Proofs.YthgpjlmdllihmaaGreat
open Go.RowKit Go.Shelf Go.Maps
set_option linter.unusedVariables false
set_option linter.unusedSimpArgs false
set_option maxRecDepth 100000

theorem pair_info : (Tryz.prog.info? 75).map (fun i => (i.zero, i.size, i.bytes)) = some (some (.agg #[.string ⟨#[]⟩, .string ⟨#[]⟩]), 2, 32) := by kernel_rfl

theorem src_twoS (w : World) (v u : Value) (t : TypeId) : Src (w.alloc (.cells #[v, u] t)) (some ⟨w.heap.size, 0, none⟩) 1 [v, u] := by
  refine ⟨(fun h => by cases h), fun ad hA j x hx => ?_⟩
  cases hA
  rw [add_at, Nat.zero_add, World.cell?_alloc_new]
  simpa using hx

/-- The cells of pairs. -/
def pairCells (T : Tab) : List Value := T.flatMap fun p => [.string ⟨p.1.toArray⟩, .string ⟨p.2.toArray⟩]
theorem pairCells_len (T : Tab) : (pairCells T).length = T.length * 2 := by
  induction T with
  | nil => rfl
  | cons p T ih => simp only [pairCells, List.flatMap_cons, List.length_append, List.length_cons, List.length_nil] at ih ⊢; omega

set_option maxHeartbeats 1000000 in
theorem all_ok {w : World} {s : St} {T : Tab} (h : StAt w s) (hT : TabV w s.m T) (hG : Good T) : Calls Tryz.prog 10 #[.pointer (some ⟨s.p, 0, none⟩)] w fun e w' => ∃ A c, e = .returned (.slice A T.length c) ∧ w'.ownsRow w.heap.size 75 2 (.slice A T.length c) T.length (pairCells T) ∧ Keeps [] w w' := by
  have hfew := hG.few
  obtain ⟨ip, hip, hp0, hp1, hp2⟩ := info_parts pair_info
  have HM := Lib.hid (missing_ok h)
  have HO := Lib.hid (inorder_is s.m T w hT (by omega))
  have HS := Lib.hid h
  have HT := Lib.hid hT
  have HG := Lib.hid hG
  obtain ⟨_, _, c2, _, _⟩ := h.cell
  clear h hT hG
  go_enter Tryz.func10, Tryz.ntmps10
  go_wp2_with fail
  refine HM.out.mono ?_
  rintro e w1 ⟨rfl, rfl⟩
  go_wp2_with fail
  refine HO.out.mono ?_
  rintro e w2 ⟨A, c, rfl, hko, hk2⟩
  have HKO := Lib.hid hko
  have HK2 := Lib.hid hk2
  clear hko hk2 HO c2
  go_wp2_with fail
  go_loopw [3, 5, 15] (fun pv _ i wr => ∃ j : Nat, i = .int .i64 (j : Int) ∧ j ≤ T.length ∧ Hid (wr.ownsRow w.heap.size 75 2 pv j (pairCells (T.take j))) ∧ Hid (Keeps [] w wr) ∧ Hid (wr.ownsRow w.heap.size 9 1 (.slice A T.length c) T.length (T.map fun p => encStr p.1)) ∧ Hid (∀ b, (Value.slice A T.length c).ownBlock = some b → pv.ownBlock ≠ some b)) (fun _ _ i _ => T.length - (intOf i).toNat)
  case atStart => exact ⟨0, rfl, Nat.zero_le _, World.ownsRow_nil _ _ _ _, HK2, HKO, fun b _ hc => by cases hc⟩
  case round =>
    obtain ⟨j, rfl, hj, HPj, HKj, HOj, HAj⟩ := hrel
    by_cases hlt : j < T.length
    · have hpm : T[j]? = some (T[j]'hlt) := List.getElem?_eq_getElem hlt
      obtain ⟨k1, k2, k3⟩ := HG.out.key _ (List.getElem_mem hlt)
      have hgv := tget_at HG.out.rise hlt
      have htake : pairCells (T.take (j + 1)) = pairCells (T.take j) ++ [.string ⟨(T[j]'hlt).1.toArray⟩, .string ⟨(T[j]'hlt).2.toArray⟩] := by
        rw [List.take_succ_eq_append_getElem hlt, pairCells, List.flatMap_append]
        rfl
      obtain ⟨b0, rfl⟩ : ∃ b0, A = some ⟨b0, 0, none⟩ := by
        rcases HOj.out.2 with ⟨_, h0⟩ | ⟨g0, cap0, cur0, h0, _⟩
        · omega
        · injection h0 with h0
          exact ⟨g0, h0⟩
      have kcell := HOj.out.cells rfl j (.string ⟨(T[j]'hlt).1.toArray⟩) (by rw [List.getElem?_map, hpm]; rfl)
      rw [add_at, Nat.zero_add] at kcell
      have hlook := (run_look (HT.out.grow HKj.out) 60 Tryz.underlying60 (T[j]'hlt).1 (by unfold maxLen; omega)).2
      rw [hgv] at hlook
      have HTK := Lib.hid htake
      clear htake hpm hgv k1 k2 k3
      generalize T[j]'hlt = p at *
      obtain ⟨k, v⟩ := p
      obtain ⟨_, _, c2, _, _⟩ := (HS.out.keep HKj.out (by simp)).cell
      have hown := HPj.out
      obtain ⟨PA, pc, rfl⟩ := own_slice hown
      have kf := field_row ⟨v.toArray⟩
      clear hown
      go_wp2_with (at_builtin; refine wpList_append_opt rfl (.tmp 19) (.tmp 30) 38 rfl w.heap.size 75 ip _ 2 32 Tryz.underlying38 hip hp0 hp1 hp2 rfl (by decide) (.slice PA j pc) j (pairCells (T.take j)) rfl (HPj.out.alloc _) (some ⟨wr.heap.size, 0, none⟩) 1 1 [.string ⟨k.toArray⟩, .string ⟨v.toArray⟩] rfl rfl (src_twoS _ _ _ _) (by simp [Value.oneCell']) (by unfold maxLen; omega) (by omega) (by have := HKj.out.size; simp; omega) ?_; intro v6 w6 ho6 hg6 hs6; have HO6 := Lib.hid ho6; have HG6 := Lib.hid hg6; have HS6 := Lib.hid hs6; clear ho6 hg6 hs6)
      have hal := HPj.out.alloc (.cells #[.string ⟨k.toArray⟩, .string ⟨v.toArray⟩] 75)
      have hka := HKj.out.alloc (.cells #[.string ⟨k.toArray⟩, .string ⟨v.toArray⟩] 75)
      have KO6 : Hid (w6.ownsRow w.heap.size 9 1 (.slice (some ⟨b0, 0, none⟩) T.length c) T.length (T.map fun p => encStr p.1)) := own_keep (HOj.out.alloc _) (grown_ownS hal HG6.out) (fun b hb hm => HAj.out b hb (by simpa using hm))
      have KA6 : Hid (∀ b, (Value.slice (some ⟨b0, 0, none⟩) T.length c).ownBlock = some b → v6.ownBlock ≠ some b) := fun b hb hc => by
        rcases HS6.out with h | h
        · rw [h] at hc; exact HAj.out b hb hc
        · rw [h] at hc
          injection hc with hc
          have := (HOj.out.lt b hb).2
          simp at hc
          omega
      have KK6 := Lib.hid (keeps_ownS hal hka HG6.out)
      clear hal hka
      go_roundw
      case rel => exact ⟨j + 1, by go_num, by omega, by rw [HTK.out]; exact HO6, KK6, KO6, KA6⟩
      case measure => simp [intOf]; omega
    · obtain rfl : j = T.length := by omega
      have htk : T.take T.length = T := List.take_length
      rw [htk] at HPj
      obtain ⟨PA, pc, rfl⟩ := own_slice HPj.out
      go_wp2_with fail
      go_ret
      exact ⟨PA, pc, rfl, HPj.out, HKj.out⟩

end Go.Proofs.YthgpjlmdllihmaaGreat
/- Copy. -/
namespace Go.Proofs.YthgpjlmdllihmaaGreat
open Go.RowKit Go.Shelf Go.Maps
set_option linter.unusedVariables false
set_option linter.unusedSimpArgs false
set_option maxRecDepth 100000

set_option maxHeartbeats 1000000 in
theorem scopy_ok {w : World} {s : St} {k : Dk} (h : StAt w s) (hd : DiskAt w k) (hp : s.dp = k.p) (hW : k.W.length ≤ 1000000) : Calls Tryz.prog 11 #[.pointer (some ⟨s.p, 0, none⟩)] w fun e w' => ∃ p k', e = .returned (.pointer (some ⟨p, 0, none⟩)) ∧ StAt w' ⟨p, s.at_, s.turn, s.m, k'.p, s.br⟩ ∧ DiskAt w' k' ∧ k'.dat = k.dat ∧ (∀ b ∈ k'.fp, w.heap.size ≤ b) ∧ (∀ b ∈ k'.all, w.heap.size ≤ b ∨ (b ∈ k.all ∧ b ∉ k.fp)) ∧ w.heap.size ≤ p ∧ p ∉ k'.all ∧ Keeps [] w w' := by
  have HM := Lib.hid (missing_ok h)
  obtain ⟨c0, c1, c2, c3, c4⟩ := h.cell
  have HS := Lib.hid h
  rw [hp] at c3
  have hbl := hd
  have HC := Lib.hid (fun X (hk : Keeps [] w X) => copy_any k X (hd.grow hk) hW)
  have hal : ∀ b ∈ k.all, b < w.heap.size := fun b hb => hd.lt b hb
  have HAL := Lib.hid hal
  obtain ⟨X1, hX1⟩ : ∃ X1, w.alloc (.cells #[.int .i64 (s.at_ : Int), .int .u32 (s.turn : Int), .map s.m, .pointer (some ⟨k.p, 0, none⟩), .bool s.br] 65) = X1 := ⟨_, rfl⟩
  have kX : Keeps [] w X1 := by rw [← hX1]; exact (Keeps.refl [] w).alloc _
  have zX : X1.heap.size = w.heap.size + 1 := by rw [← hX1]; simp
  have bX : X1.heap[w.heap.size]? = some (.cells #[.int .i64 (s.at_ : Int), .int .u32 (s.turn : Int), .map s.m, .pointer (some ⟨k.p, 0, none⟩), .bool s.br] 65 (0, 0)) := by rw [← hX1]; exact heap_alloc_new w _
  have d3 := (kX.cell (lt_of_cell c3) (by simp)).trans c3
  have HBX := Lib.hid bX
  have HKX := Lib.hid kX
  clear h hd hbl hal bX kX
  go_enter Tryz.func11, Tryz.ntmps11
  go_wp2_with fail
  refine HM.out.mono ?_
  rintro e w1 ⟨rfl, rfl⟩
  go_wp2_with fail
  refine (HC.out X1 HKX.out).mono ?_
  rintro e w2 ⟨k', rfl, hcp⟩
  have b2 := blk_keep HBX.out hcp.keeps (by simp)
  have HCP := Lib.hid hcp
  have HB2 := Lib.hid b2
  have hb3 := cell_of_blk b2 3
  have hf3 := free_of_blk b2 3
  have hlt2 : w.heap.size < w2.heap.size := lt_of_heap b2
  clear hcp b2 zX
  go_wp2_with fail
  go_ret
  have zX : w.heap.size < X1.heap.size := lt_of_heap HBX.out
  have hna : w.heap.size ∉ k'.all := fun hb => by
    rcases HCP.out.all _ hb with h1 | ⟨h1, _⟩
    · omega
    · have := HAL.out _ h1
      omega
  have k3 : Keeps [w.heap.size] w2 (w2.setCell ⟨w.heap.size, 3, none⟩ (.pointer (some ⟨k'.p, 0, none⟩))) := (Keeps.refl _ _).setCell (.inl (by simp)) _
  refine ⟨w.heap.size, k', rfl, blk_set HB2.out 3 _, HCP.out.disk.keep k3 (fun b hb hm => hna (by simp at hm; rw [← hm]; exact hb)), HCP.out.dat, fun b hb => by have := HCP.out.fp b hb; omega, fun b hb => ?_, Nat.le_refl _, hna, ((HKX.out.trans' HCP.out.keeps).trans k3 (fun x hx => .inr (by simp at hx; omega)))⟩
  rcases HCP.out.all b hb with h1 | h1
  · exact .inl (by omega)
  · exact .inr h1

end Go.Proofs.YthgpjlmdllihmaaGreat
