/- row.put: a write's bytes, laid where they belong. -/
import Derived.Test.YtadpomclnhemoaaD2
namespace Go.Proofs.Ytadpomclnhemoaa
open Go.RowKit
set_option linter.unusedVariables false

theorem Keeps.setRow {bs : List Nat} {a b : World} (h : Keeps bs a b) {g : Nat} (hg : g ∈ bs ∨ a.heap.size ≤ g) (cs : Array Value) : Keeps bs a (b.setRow g cs) :=
  ⟨h.os, h.tape, h.output, by simpa using h.size, fun i hi hn => (setRow_other b g i cs (by
    rintro rfl
    rcases hg with hg | hg
    · exact hn hg
    · omega)).trans (h.block i hi hn)⟩

/-- copy at a row that is known whole: only that row has turned. -/
theorem step_copy_keep {P : Program} {ops : Array Oper} {o : Oper} {a : Act} {w : World} {K : Act → World → Prop} {Q : Exit → Act → World → Prop} {E : Prop} (hgd : o.guard = none) (d s : Operand) (dT sT : TypeId)
    (ho : o.op = .call { callee := .builtin .copy, args := #[d, s], argTypes := #[dT, sT] }) (elem : TypeId) (hu : P.underlying dT = some (.slice elem)) (hsz : (P.info? elem).map (·.size) = some 1)
    (dp sp : Option Addr) (dLen dCap sLen sCap : Nat) (hd : a.eval d = .slice dp dLen dCap) (hs : a.eval s = .slice sp sLen sCap)
    (g off : Nat) (cur : List Value) (t : TypeId) (hg : w.heap[g]? = some (.cells cur.toArray t (0, 0))) (cs : List Value) (hn : cs.length = Nat.min sLen dLen)
    (hpos : 0 < cs.length → dp = some ⟨g, off, none⟩ ∧ ∃ ad, sp = some ad ∧ ∀ j v, cs[j]? = some v → w.cell? (ad.add j) = some v)
    (hfit : off + cs.length ≤ cur.length) (h1 : ∀ v ∈ cs, v.oneCell' = true)
    (h : ∀ w', Hid (w'.heap[g]? = some (.cells (splice cur off cs).toArray t (0, 0))) → Hid (Keeps [g] w w') → K (a.put o.dst (goInt cs.length)) w') :
    if Region.wanted o (yielded ops a.tmps) = true then Oper.wp P o a w K Q else E := by
  have hw : Region.wanted o (yielded ops a.tmps) = true := by simp [Region.wanted, hgd]
  rw [if_pos hw]
  by_cases h0 : cs.length = 0
  · obtain rfl : cs = [] := List.eq_nil_of_length_eq_zero h0
    have hrun := run_copy_none (P := P) w dT sT o.type elem dp sp dLen dCap sLen sCap hu hsz (by simpa using hn.symm)
    unfold Oper.wp
    simp [execOp, ho, resolve, invoke, builtin, hd, hs, hrun, Result.andThen]
    exact h w (show _ = _ by simpa [splice] using hg) (Keeps.refl _ _)
  · obtain ⟨rfl, ad, rfl, hsrc⟩ := hpos (by omega)
    have hrun := run_copy_row (P := P) w dT sT o.type elem g off dLen dCap ad sLen sCap cur.toArray t cs hu hsz hg hn hsrc (by simpa using hfit) h1
    unfold Oper.wp
    simp [execOp, ho, resolve, invoke, builtin, hd, hs, hrun, Result.andThen]
    exact h _ (show _ = _ by simpa [splice] using setRow_heap w g _ _ t _ hg) ((Keeps.refl _ _).setRow (by simp) _)

theorem u8_size : (Try.prog.info? 5).map (·.size) = some 1 := by kernel_rfl

theorem put_cs {w : World} {B : Option Addr} {d : Nat} {xs : List UInt8} (hv : BytesAt w (.slice B xs.length d) xs) {w' : World} (hk : Keeps [] w w') : 0 < (xs.map bv).length → ∃ ad, B = some ad ∧ ∀ j v, (xs.map bv)[j]? = some v → w'.cell? (ad.add j) = some v := by
  intro h
  have h2 := hv.grow hk
  obtain ⟨A, c, he, _, _, h3⟩ := hv
  injection he with he _ _
  subst he
  obtain ⟨b, o, rfl, _⟩ := h3 (by simpa using h)
  exact ⟨_, rfl, h2.cells⟩

theorem put_some (g n c : Nat) (cur : List Value) (off : Nat) (B : Option Addr) (d : Nat) (xs : List UInt8) (w : World) (hr : w.heap[g]? = some (.cells cur.toArray 5 (0, 0))) (hn : n ≤ c) (hc : cur.length = c) (hm : c ≤ 9223372036854775807)
    (hfit : off + xs.length ≤ n) (hv : BytesAt w (.slice B xs.length d) xs) (hlt : off < c) :
    Calls Try.prog 41 #[.agg #[.slice (some ⟨g, 0, none⟩) n c], .agg #[.int .i64 off, .slice B xs.length d]] w fun e w' => e = .returned (.tuple #[]) ∧ w'.heap[g]? = some (.cells (splice cur off (xs.map bv)).toArray 5 (0, 0)) ∧ Keeps [g] w w' := by
  have h1a : 0 ≤ (off : Int) := by omega
  have h1b : (off : Int) ≤ (n : Int) := by omega
  have h1c : (n : Int) ≤ (c : Int) := by omega
  have hco : ¬ c = off := by omega
  have HR : Hid (w.heap[g]? = some (.cells cur.toArray 5 (0, 0))) := hr
  have hgs := lt_of_heap hr
  have HK := fun o1 o2 => Lib.hid (((Keeps.refl [] w).alloc o1).alloc o2)
  have HV := Lib.hid hv
  have HC := Lib.hid hc
  have H1 : Hid ((xs.map bv).length = Nat.min xs.length (n - off)) := by show (xs.map bv).length = _; rw [List.length_map]; exact (Nat.min_eq_left (by omega)).symm
  have H2 : Hid (off + (xs.map bv).length ≤ cur.length) := by show off + (xs.map bv).length ≤ _; rw [List.length_map, hc]; omega
  clear hr hv hc
  go_enter Try.func41, Try.ntmps41
  go_wp2
  go_region_law (refine step_copy_keep rfl (.tmp 8) (.tmp 10) 29 29 rfl 5 Try.underlying29 u8_size _ _ _ _ _ _ rfl rfl g off cur 5 (((HK _ _).out.block g hgs (by simp)).trans HR.out) (xs.map bv) H1.out (fun h => ⟨rfl, put_cs HV.out (HK _ _).out.drew h⟩) H2.out bvs_one ?_; intro w2 hw2 hk2)
  all_goals
    go_end0
    exact ⟨rfl, hw2.out, ((HK _ _).out.drew.mono (by simp)).trans hk2.out (by simp)⟩

theorem put_end (g n c : Nat) (cur : List Value) (B : Option Addr) (d : Nat) (w : World) (hn : n ≤ c) (hm : c ≤ 9223372036854775807) (off : Nat) (hfit : off = n) (hlt : off = c) :
    Calls Try.prog 41 #[.agg #[.slice (some ⟨g, 0, none⟩) n c], .agg #[.int .i64 off, .slice B 0 d]] w fun e w' => e = .returned (.tuple #[]) ∧ Keeps [] w w' := by
  have h1a : 0 ≤ (off : Int) := by omega
  have h1b : (off : Int) ≤ (n : Int) := by omega
  have h1c : (n : Int) ≤ (c : Int) := by omega
  subst hfit
  subst hlt
  have hcp := fun (W : World) (D : Option Addr) (e f : Nat) => run_copy_none (P := Try.prog) W 29 29 3 5 D B e f 0 d Try.underlying29 u8_size (by simp)
  go_enter Try.func41, Try.ntmps41
  go_wp2
  go_region
  all_goals
    go_end0
    exact ⟨rfl, ((((Keeps.refl [] w).alloc _).alloc _).drew)⟩

/-- Bytes of a row, some of them laid anew. -/
def laid (S : List UInt8) (off : Nat) (xs : List UInt8) : List UInt8 := S.take off ++ (xs ++ S.drop (off + xs.length))
theorem length_laid {S : List UInt8} {off : Nat} {xs : List UInt8} (h : off + xs.length ≤ S.length) : (laid S off xs).length = S.length := by simp [laid]; omega

theorem splice_take {cur : List Value} {n off : Nat} {S xs : List UInt8} (h : cur.take n = S.map bv) (hn : n = S.length) (hf : off + xs.length ≤ n) (hc : n ≤ cur.length) : (splice cur off (xs.map bv)).take n = (laid S off xs).map bv := by
  have h2 : cur = S.map bv ++ cur.drop n := by rw [← h, List.take_append_drop]
  have hl : (S.map bv).length = n := by simp [hn]
  rw [h2]
  generalize cur.drop n = R
  have e1 : (S.map bv ++ R).take off = (S.take off).map bv := by rw [List.take_append_of_le_length (by omega), List.map_take]
  have e2 : (S.map bv ++ R).drop (off + (xs.map bv).length) = (S.drop (off + xs.length)).map bv ++ R := by
    rw [List.drop_append_of_le_length (by simp; omega), List.map_drop, List.length_map]
  unfold splice
  rw [e1, e2]
  have e3 : (S.take off).map bv ++ (xs.map bv ++ ((S.drop (off + xs.length)).map bv ++ R)) = (laid S off xs).map bv ++ R := by simp [laid, List.append_assoc]
  rw [e3, List.take_append_of_le_length (by rw [List.length_map, length_laid (by omega)]; omega), List.take_of_length_le (by rw [List.length_map, length_laid (by omega)]; omega)]

/-- put: the row's bytes, those of the write laid anew. -/
theorem put_any (g c : Nat) (S : List UInt8) (base off : Nat) (v : Value) (xs : List UInt8) (w : World) (hr : w.ownsRow base 5 1 (.slice (some ⟨g, 0, none⟩) S.length c) S.length (S.map bv))
    (hfit : off + xs.length ≤ S.length) (hv : BytesAt w v xs) :
    Calls Try.prog 41 #[.agg #[.slice (some ⟨g, 0, none⟩) S.length c], .agg #[.int .i64 off, v]] w fun e w' => e = .returned (.tuple #[]) ∧ w'.ownsRow base 5 1 (.slice (some ⟨g, 0, none⟩) S.length c) S.length ((laid S off xs).map bv) ∧ Keeps [g] w w' := by
  have hv0 := hv
  obtain ⟨B, d, rfl, hd1, hd2, hd3⟩ := hv
  rcases hr.2 with ⟨h, _⟩ | ⟨g', cap, cur, he, hb, hh, hnc, hcm, hcs, htk⟩
  · cases h
  · injection he with he1 _ he3
    injection he1 with he1
    injection he1 with he1
    subst he1
    subst he3
    unfold maxLen at hcm
    rw [Nat.mul_one] at hcs htk
    by_cases hlt : off < c
    · refine (put_some g S.length c cur.toList off B d xs w (by simpa using hh) hnc (by simpa using hcs) (by omega) hfit hv0 hlt).mono ?_
      rintro e w' ⟨rfl, h1, h2⟩
      refine ⟨rfl, ⟨by rw [List.length_map, length_laid hfit]; omega, .inr ⟨g, c, _, rfl, hb, h1, hnc, by unfold maxLen; omega, ?_, ?_⟩⟩, h2⟩
      · simp only [List.size_toArray, Nat.mul_one]
        rw [length_splice _ _ _ (by simp; omega)]
        simpa using hcs
      · rw [Nat.mul_one]
        exact splice_take htk rfl hfit (by simp; omega)
    · have h0 : xs.length = 0 := by omega
      have hx : xs = [] := List.eq_nil_of_length_eq_zero h0
      subst hx
      refine (put_end g S.length c cur.toList B d w hnc (by omega) off (by simp at hfit; omega) (by simp at hfit; omega)).mono ?_
      rintro e w' ⟨rfl, h2⟩
      have hS : laid S off [] = S := by simp [laid]
      rw [hS]
      exact ⟨rfl, own_keep hr h2 (by simp), h2.mono (by simp)⟩

end Go.Proofs.Ytadpomclnhemoaa
