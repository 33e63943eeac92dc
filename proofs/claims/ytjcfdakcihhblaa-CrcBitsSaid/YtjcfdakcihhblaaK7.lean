/- joined: parts, one behind the other. -/
import Derived.Test.YtjcfdakcihhblaaK6
namespace Go.Proofs.Ytjcfdakcihhblaa
open Go.RowKit
set_option linter.unusedVariables false

theorem u8_of : (Try.prog.info? 5).map (fun i => (i.zero, i.size, i.bytes)) = some (some (.int .u8 0), 1, 1) := by kernel_rfl

/-- Some parts are laid one behind the other, in memory of their own. -/
structure Laid2 (w wr : World) (v : Value) (l : List Part) (j : Nat) : Prop where
  own : wr.ownsRow w.heap.size 5 1 v (total (l.take j)) (((l.take j).flatMap fun x => x.bs).map bv)
  below : Below w.heap.size w wr

theorem total_le {l : List Part} (j : Nat) : total (l.take j) ≤ total l := by
  have : total l = total (l.take j) + total (l.drop j) := by
    unfold total
    rw [← List.sum_append, ← List.map_append, List.take_append_drop]
  omega

theorem flat_len (l : List Part) : (l.flatMap fun x => x.bs).length = total l := by
  simp [total, List.length_flatMap]

set_option maxHeartbeats 1000000 in
theorem joined2 (A : Option Addr) (len c : Nat) (l : List Part) (w : World) (hl : PartsAt w A len l) (hm : len ≤ 20) (ht : total l ≤ 3000) : Calls Try.prog 11 #[.slice A len c] w fun e w' => ∃ B d, e = .returned (.slice B (total l) d) ∧ BytesAt w' (.slice B (total l) d) (l.flatMap fun x => x.bs) ∧ (∀ b, (Value.slice B (total l) d).ownBlock = some b → w.heap.size ≤ b) ∧ Below w.heap.size w w' := by
  have HL := Lib.hid hl
  clear hl
  obtain ⟨iu, hiu, hzu0, hzu1, hzu2⟩ := info_parts u8_of
  go_enter Try.func11, Try.ntmps11
  go_wp2
  go_loopw [3, 4] (fun v i wr => ∃ j : Nat, i = .int .i64 (j : Int) ∧ j ≤ len ∧ Hid (Laid2 w wr v l j)) (fun _ i _ => len - (intOf i).toNat)
  case atStart => exact ⟨0, rfl, Nat.zero_le _, ⟨by simpa [total] using World.ownsRow_nil w w.heap.size 5 1, Below.refl _ _⟩⟩
  case round =>
    obtain ⟨j, rfl, hj, HJ⟩ := hrel
    by_cases hlt : j < len
    · have hll := HL.out.len
      have hx : l[j]? = some (l[j]'(by omega)) := List.getElem?_eq_getElem (by omega)
      have hk : Keeps [] w wr := Keeps.of_below HJ.out.below
      obtain ⟨b, o, rfl, c0, hb, hm2⟩ := (HL.out.keep hk).at_ j _ hx
      have htk : l.take (j + 1) = l.take j ++ [l[j]'(by omega)] := List.take_succ_eq_append_getElem (by omega)
      generalize l[j]'(by omega) = x at *
      have h5 : total (l.take (j + 1)) = total (l.take j) + x.bs.length := by rw [htk, total_snoc]
      have h6 := total_le (l := l) (j + 1)
      have h7 : ((l.take (j + 1)).flatMap fun x => x.bs).map bv = ((l.take j).flatMap fun x => x.bs).map bv ++ x.bs.map bv := by rw [htk]; simp
      obtain ⟨Av, cv, hv⟩ := own_slice HJ.out.own
      have hz := HJ.out.below.size
      have SB := Lib.hid (Src.of_bytes hb)
      have HJ7 := Lib.hid h7
      have HJ5 := Lib.hid h5
      subst hv
      clear hb hx htk hk h7
      go_wp2_with (first
        | (at_builtin; refine wpList_append_opt rfl (.tmp 11) (.tmp 15) 28 rfl w.heap.size 5 iu _ 1 1 Try.underlying28 hiu hzu0 hzu1 hzu2 rfl (by decide) (.slice Av (total (l.take j)) cv) (total (l.take j)) (((l.take j).flatMap fun x => x.bs).map bv) rfl HJ.out.own x.A x.bs.length x.c (x.bs.map bv) rfl (by simp) SB.out bvs_one (by unfold maxLen; omega) (by omega) hz ?_; intro v2 w2 ho2 hg2 hs2; have HO2 := Lib.hid ho2; have HG2 := Lib.hid hg2; clear ho2 hg2 hs2))
      have HL2 : Hid (Laid2 w w2 v2 l (j + 1)) := by
        refine ⟨?_, HJ.out.below.grown HG2.out hz (fun k hk => (HJ.out.own.lt k hk).1)⟩
        rw [HJ5.out, HJ7.out]
        exact HO2.out
      go_roundw
      case rel => exact ⟨j + 1, by go_num, by omega, HL2⟩
      case measure => simp [intOf]; omega
    · have he : l.take j = l := List.take_of_length_le (by have := HL.out.len; omega)
      have ho := HJ.out.own
      rw [he] at ho
      obtain ⟨Av, cv, hv⟩ := own_slice ho
      subst hv
      have HO := Lib.hid ho
      clear ho he
      go_wp2_with fail
      go_ret
      refine ⟨Av, cv, rfl, ?_, fun b hb => (HO.out.lt b hb).1, HJ.out.below⟩
      have h9 := HO.out
      rw [← flat_len] at h9
      have := BytesAt.of_own h9
      rw [flat_len] at this
      exact this

end Go.Proofs.Ytjcfdakcihhblaa
