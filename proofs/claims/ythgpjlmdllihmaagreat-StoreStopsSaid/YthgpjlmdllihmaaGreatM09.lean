/- Texts of one proof, laid together: D1 D2 D3 D4. -/
import Derived.Test.YthgpjlmdllihmaaGreatProg
import Derived.Test.YthgpjlmdllihmaaGreatM01
import Derived.Deep.RegionLaw
import Derived.Deep.RegionWith
/- Small functions of disk: missing, Size, Waits, Steps, within, pickAmong: what each answers. -/
namespace Go.Proofs.YthgpjlmdllihmaaGreat
open Go.RowKit
set_option linter.unusedVariables false

def inB (a n e : Int) : Bool := decide (0 ≤ a ∧ a ≤ e - n)
theorem inB_of {a n e : Int} (h : 0 ≤ a ∧ a ≤ e - n) : inB a n e = true := by simp [inB, h]
theorem inB_not {a n e : Int} (h : ¬ (0 ≤ a ∧ a ≤ e - n)) : inB a n e = false := by unfold inB; exact decide_eq_false h
theorem ret_bool {a b : Bool} (h : a = b) : Ending.returned (.bool a) = .returned (.bool b) := by rw [h]
theorem ret_int {k : IntKind} {a b : Int} (h : a = b) : Ending.returned (.int k a) = .returned (.int k b) := by rw [h]

theorem within_any (a n e : Int) (w : World) (h0 : 0 ≤ n) (h1 : 0 ≤ e) (h2 : n ≤ 9223372036854775807) (h3 : e ≤ 9223372036854775807) :
    Calls Tryz.prog 70 #[.int .i64 a, .int .i64 n, .int .i64 e] w fun r w' => r = .returned (.bool (inB a n e)) ∧ w = w' := by
  by_cases ha : 0 ≤ a
  · by_cases hb : a ≤ e - n
    · have H := Lib.hid (inB_of (a := a) (n := n) (e := e) ⟨ha, hb⟩)
      go_enter Tryz.func70, Tryz.ntmps70
      go_wp2
      go_ret
      exact ⟨ret_bool H.out.symm, rfl⟩
    · have H := Lib.hid (inB_not (a := a) (n := n) (e := e) (by omega))
      go_enter Tryz.func70, Tryz.ntmps70
      go_wp2
      go_ret
      exact ⟨ret_bool H.out.symm, rfl⟩
  · have H := Lib.hid (inB_not (a := a) (n := n) (e := e) (by omega))
    go_enter Tryz.func70, Tryz.ntmps70
    go_wp2
    go_ret
    exact ⟨ret_bool H.out.symm, rfl⟩

theorem within_yes (a n e : Int) (w : World) (h0 : 0 ≤ n) (h1 : 0 ≤ e) (h2 : n ≤ 9223372036854775807) (h3 : e ≤ 9223372036854775807) (h4 : 0 ≤ a) (h5 : a ≤ e - n) :
    Calls Tryz.prog 70 #[.int .i64 a, .int .i64 n, .int .i64 e] w fun r w' => r = .returned (.bool true) ∧ w = w' := by
  rw [← inB_of (a := a) (n := n) (e := e) ⟨h4, h5⟩]
  exact within_any a n e w h0 h1 h2 h3

theorem within_no (a n e : Int) (w : World) (h0 : 0 ≤ n) (h1 : 0 ≤ e) (h2 : n ≤ 9223372036854775807) (h3 : e ≤ 9223372036854775807) (h4 : ¬ (0 ≤ a ∧ a ≤ e - n)) :
    Calls Tryz.prog 70 #[.int .i64 a, .int .i64 n, .int .i64 e] w fun r w' => r = .returned (.bool false) ∧ w = w' := by
  rw [← inB_not (a := a) (n := n) (e := e) h4]
  exact within_any a n e w h0 h1 h2 h3

theorem missing_nil (w : World) : Calls Tryz.prog 30 #[.pointer none] w fun e w' => e = .returned (.bool true) ∧ w = w' := by
  go_enter Tryz.func30, Tryz.ntmps30
  go_wp2
  go_ret
  exact ⟨rfl, rfl⟩

theorem missing_zero (p : Nat) (w : World) (hc : w.cell? ⟨p, 0, none⟩ = some (.slice none 0 0)) :
    Calls Tryz.prog 30 #[.pointer (some ⟨p, 0, none⟩)] w fun e w' => e = .returned (.bool true) ∧ w = w' := by
  go_enter Tryz.func30, Tryz.ntmps30
  go_wp2
  go_ret
  exact ⟨rfl, rfl⟩

theorem missing_not (p : Nat) (A : Option Addr) (n c : Nat) (w : World) (hc : w.cell? ⟨p, 0, none⟩ = some (.slice A n c)) (hn : 0 < n) (hm : n ≤ 9223372036854775807) :
    Calls Tryz.prog 30 #[.pointer (some ⟨p, 0, none⟩)] w fun e w' => e = .returned (.bool false) ∧ w = w' := by
  have h0 : ((n : Int) == 0) = false := by simp; omega
  go_enter Tryz.func30, Tryz.ntmps30
  go_wp2
  go_ret
  exact ⟨rfl, rfl⟩

theorem size_any (p : Nat) (A : Option Addr) (n c : Nat) (w : World) (hc : w.cell? ⟨p, 0, none⟩ = some (.slice A n c)) (hn : 0 < n) (hm : n ≤ 9223372036854775807) :
    Calls Tryz.prog 21 #[.pointer (some ⟨p, 0, none⟩)] w fun e w' => e = .returned (.int .i64 n) ∧ w = w' := by
  go_enter Tryz.func21, Tryz.ntmps21
  go_wp2_with (go_at_call 30; refine (missing_not p A n c _ hc hn hm).mono ?_; rintro e w' ⟨rfl, rfl⟩)
  go_ret
  exact ⟨rfl, rfl⟩

theorem size_nil (w : World) : Calls Tryz.prog 21 #[.pointer none] w fun e w' => e = .returned (.int .i64 0) ∧ w = w' := by
  go_enter Tryz.func21, Tryz.ntmps21
  go_wp2_with (go_at_call 30; refine (missing_nil _).mono ?_; rintro e w' ⟨rfl, rfl⟩)
  go_ret
  exact ⟨rfl, rfl⟩

/-- What a pick among n things is. -/
def pickOf (k n : Int) : Int := (k.tmod n + n) % n
theorem pickOf_mod (k n : Int) (hn : 0 < n) : pickOf k n = k % n := by
  unfold pickOf
  have h1 : -n < k.tmod n := by
    rcases Int.le_total 0 k with h | h
    · have := Int.tmod_nonneg n h; omega
    · have := Int.neg_tmod k n
      have h3 : 0 ≤ (-k).tmod n := Int.tmod_nonneg n (by omega)
      have h4 : (-k).tmod n < n := Int.tmod_lt_of_pos _ hn
      omega
  have h2 : k.tmod n + n = k - n * (k.tdiv n) + n := by have := Int.mul_tdiv_add_tmod k n; omega
  rw [h2, show k - n * (k.tdiv n) + n = k + n * (1 - k.tdiv n) from by rw [Int.mul_sub]; omega, Int.add_mul_emod_self_left]

theorem pick_any (k n : Int) (w : World) (hk : -9223372036854775808 ≤ k ∧ k ≤ 9223372036854775807) (hn : 0 < n) (hn2 : n ≤ 4611686018427387904) :
    Calls Tryz.prog 32 #[.int .i64 k, .int .i64 n] w fun e w' => e = .returned (.int .i64 (k % n)) ∧ w = w' := by
  obtain ⟨hk1, hk2⟩ := hk
  have hr := Lib.hid (pickOf_mod k n hn)
  have hb1 : -n < k.tmod n := by
    rcases Int.le_total 0 k with h | h
    · have := Int.tmod_nonneg n h; omega
    · have := Int.neg_tmod k n
      have h3 : 0 ≤ (-k).tmod n := Int.tmod_nonneg n (by omega)
      have h4 : (-k).tmod n < n := Int.tmod_lt_of_pos _ hn
      omega
  have hb2 : k.tmod n < n := Int.tmod_lt_of_pos _ hn
  have hz : (n == 0) = false := by simp; omega
  go_enter Tryz.func32, Tryz.ntmps32
  go_wp2
  go_ret
  exact ⟨ret_int hr.out, rfl⟩

end Go.Proofs.YthgpjlmdllihmaaGreat
/- bytes.Clone, row.another, row.put: what each leaves in memory. -/
namespace Go.Proofs.YthgpjlmdllihmaaGreat
open Go.RowKit
set_option linter.unusedVariables false

theorem u8_info : (Tryz.prog.info? 5).map (fun i => (i.zero, i.size, i.bytes)) = some (some (.int .u8 0), 1, 1) := by kernel_rfl

theorem clone_nil (c : Nat) (w : World) : Calls Tryz.prog 53 #[.slice none 0 c] w fun e w' => e = .returned (.slice none 0 0) ∧ w = w' := by
  have hq := fun (W : World) (a : Option Addr) (n c : Nat) => Lib.run_eql_slice_nil (P := Tryz.prog) W 55 5 a n c 0 0 Tryz.underlying55
  go_enter Tryz.func53, Tryz.ntmps53
  go_wp2
  go_ret
  exact ⟨rfl, rfl⟩

theorem clone_some (ad : Addr) (c : Nat) (xs : List UInt8) (w : World) (hl : xs.length ≤ 140737488351232)
    (hc : ∀ j u, (xs.map bv)[j]? = some u → w.cell? (ad.add j) = some u) :
    Calls Tryz.prog 53 #[.slice (some ad) xs.length c] w fun e w' => ∃ v, e = .returned v ∧ w'.ownsRow w.heap.size 5 1 v xs.length (xs.map bv) ∧ Below w.heap.size w w' ∧ ∃ g, v.ownBlock = some g := by
  have hq := fun (W : World) (a : Option Addr) (n c : Nat) => Lib.run_eql_slice_nil (P := Tryz.prog) W 55 5 a n c 0 0 Tryz.underlying55
  obtain ⟨i0, hi, hz0, hz1, hz2⟩ := info_parts u8_info
  have HC := Lib.hid hc
  clear hc
  have HN : Hid ((xs.map bv).length = xs.length * 1) := by show (xs.map bv).length = _; simp
  have HM : xs.length ≤ maxLen := by unfold maxLen; omega
  have HL := Lib.hid hl
  go_enter Tryz.func53, Tryz.ntmps53
  go_wp2_with (at_builtin; refine wpList_append_own _ rfl _ _ _ rfl w.heap.size 5 i0 _ 1 1 Tryz.underlying55 hi hz0 hz1 hz2 rfl (by decide) (.slice (some ⟨w.heap.size, 0, none⟩) 0 0) 0 [] rfl (World.ownsRow_made w #[] 0 (Nat.le_refl _) (by unfold maxLen; omega) rfl) ad xs.length c (xs.map bv) rfl HN.out (cells_alloc HC.out _) bvs_one (by omega) (by omega) (by simp) ?_; intro v' w1 hown hg hnil)
  go_wp2
  go_ret
  refine ⟨v', rfl, by simpa using hown, ?_, ?_⟩
  · exact ((Below.refl _ _).alloc (Nat.le_refl _) _).grown hg (by simp) (by simp [Value.ownBlock])
  · rcases hown.2 with ⟨rfl, _⟩ | ⟨g, cap, cur, rfl, _⟩
    · simp at hnil
    · exact ⟨g, rfl⟩

/-- Clone: nil of nil; else a new row with the same bytes. -/
theorem clone_any (v : Value) (xs : List UInt8) (w : World) (hl : xs.length ≤ 140737488351232) (hv : BytesAt w v xs) :
    Calls Tryz.prog 53 #[v] w fun e w' => ∃ A c, e = .returned (.slice A xs.length c) ∧ w'.ownsRow w.heap.size 5 1 (.slice A xs.length c) xs.length (xs.map bv) ∧ Below w.heap.size w w' := by
  have hv0 := hv
  obtain ⟨A, c, rfl, h1, h2, h3⟩ := hv
  rcases A with _ | ad
  · rcases Nat.eq_zero_or_pos xs.length with h0 | h0
    · have hx : xs = [] := List.eq_nil_of_length_eq_zero h0
      subst hx
      refine (clone_nil c w).mono ?_
      rintro e w' ⟨rfl, rfl⟩
      exact ⟨_, _, rfl, World.ownsRow_nil _ _ _ _, Below.refl _ _⟩
    · obtain ⟨_, _, h, _⟩ := h3 h0
      cases h
  · refine (clone_some ad c xs w hl hv0.cells).mono ?_
    rintro e w' ⟨v', he, ho, hb, _⟩
    obtain ⟨A, c, rfl⟩ := own_slice ho
    exact ⟨A, c, he, ho, hb⟩

theorem another_any (A : Option Addr) (c : Nat) (xs : List UInt8) (w : World) (hl : xs.length ≤ 140737488351232) (hv : BytesAt w (.slice A xs.length c) xs) :
    Calls Tryz.prog 39 #[.agg #[.slice A xs.length c]] w fun e w' => ∃ A c, e = .returned (.agg #[.slice A xs.length c]) ∧ w'.ownsRow w.heap.size 5 1 (.slice A xs.length c) xs.length (xs.map bv) ∧ Below w.heap.size w w' := by
  have hv2 := Lib.hid (hv.grow (w' := (w.alloc (.cells #[.slice A xs.length c] 57)).alloc (.cells #[.slice none 0 0] 57)) ((((Keeps.refl [] w)).alloc _).alloc _))
  clear hv
  go_enter Tryz.func39, Tryz.ntmps39
  go_wp2_with (go_at_call 53; refine (clone_any _ xs _ hl hv2.out).mono ?_; rintro e w1 ⟨A1, c1, rfl, ho, hb⟩; have hs := second_new hb; have hc1 := cell_of_blk hs 0; have hf1 := free_of_blk hs 0; have HS := Lib.hid hs; clear hs; simp at hc1)
  have hb2 : Below w.heap.size w w1 := (((Below.refl _ w).alloc (Nat.le_refl _) _).alloc (by simp) _).trans (hb.mono (by simp; omega))
  refine bodyPost_ret (v := .agg #[.slice A1 xs.length c1]) ?_ rfl ⟨A1, c1, rfl, ?_, hb2.setCell (by simp) _⟩
  · simp [results, Tryz.results39, go_sem, hc1]
  · refine own_keep (bs := [w.heap.size + 1]) (ho.mono (by simp; omega)) ((Keeps.refl _ _).setCell (by simp) _) (fun b hb => ?_)
    have := (ho.lt b hb).1
    simp at this
    simp
    omega

end Go.Proofs.YthgpjlmdllihmaaGreat
/- row.put: a write's bytes, laid where they belong. -/
namespace Go.Proofs.YthgpjlmdllihmaaGreat
open Go.RowKit
set_option linter.unusedVariables false

theorem Keeps.setRow {bs : List Nat} {a b : World} (h : Keeps bs a b) {g : Nat} (hg : g ∈ bs ∨ a.heap.size ≤ g) (cs : Array Value) : Keeps bs a (b.setRow g cs) :=
  ⟨h.os, h.tape, h.output, by simpa using h.size, fun i hi hn => (setRow_other b g i cs (by
    rintro rfl
    rcases hg with hg | hg
    · exact hn hg
    · omega)).trans (h.block i hi hn)⟩

/-- copy at a row that is known whole: only that row has turned. -/
theorem step_copy_keep {P : Program} {ops : Array Oper} {o : Oper} {a : Act} {w : World} {K : Act → World → Prop} {Q : Exit → Act → World → Prop} {E : Prop} (hgd : o.guard = none) (d s : Operand) (dT sT : TypeId)
    (ho : o.op = .call { callee := .builtin .copy, args := #[d, s], argTypes := #[dT, sT] }) (elem : TypeId) (hu : P.underlying dT = some (.slice elem)) (hsz : (P.info? elem).map (·.size) = some 1)
    (dp sp : Option Addr) (dLen dCap sLen sCap : Nat) (hd : a.eval d = .slice dp dLen dCap) (hs : a.eval s = .slice sp sLen sCap)
    (g off : Nat) (cur : List Value) (t : TypeId) (hg : w.heap[g]? = some (.cells cur.toArray t (0, 0))) (cs : List Value) (hn : cs.length = Nat.min sLen dLen)
    (hpos : 0 < cs.length → dp = some ⟨g, off, none⟩ ∧ ∃ ad, sp = some ad ∧ ∀ j v, cs[j]? = some v → w.cell? (ad.add j) = some v)
    (hfit : off + cs.length ≤ cur.length) (h1 : ∀ v ∈ cs, v.oneCell' = true)
    (h : ∀ w', Hid (w'.heap[g]? = some (.cells (splice cur off cs).toArray t (0, 0))) → Hid (Keeps [g] w w') → K (a.put o.dst (goInt cs.length)) w') :
    if Region.wanted o (yielded ops a.tmps) = true then Oper.wp P o a w K Q else E := by
  have hw : Region.wanted o (yielded ops a.tmps) = true := by simp [Region.wanted, hgd]
  rw [if_pos hw]
  by_cases h0 : cs.length = 0
  · obtain rfl : cs = [] := List.eq_nil_of_length_eq_zero h0
    have hrun := run_copy_none (P := P) w dT sT o.type elem dp sp dLen dCap sLen sCap hu hsz (by simpa using hn.symm)
    unfold Oper.wp
    simp [execOp, ho, resolve, invoke, builtin, hd, hs, hrun, Result.andThen]
    exact h w (show _ = _ by simpa [splice] using hg) (Keeps.refl _ _)
  · obtain ⟨rfl, ad, rfl, hsrc⟩ := hpos (by omega)
    have hrun := run_copy_row (P := P) w dT sT o.type elem g off dLen dCap ad sLen sCap cur.toArray t cs hu hsz hg hn hsrc (by simpa using hfit) h1
    unfold Oper.wp
    simp [execOp, ho, resolve, invoke, builtin, hd, hs, hrun, Result.andThen]
    exact h _ (show _ = _ by simpa [splice] using setRow_heap w g _ _ t _ hg) ((Keeps.refl _ _).setRow (by simp) _)

theorem u8_size : (Tryz.prog.info? 5).map (·.size) = some 1 := by kernel_rfl

theorem put_cs {w : World} {B : Option Addr} {d : Nat} {xs : List UInt8} (hv : BytesAt w (.slice B xs.length d) xs) {w' : World} (hk : Keeps [] w w') : 0 < (xs.map bv).length → ∃ ad, B = some ad ∧ ∀ j v, (xs.map bv)[j]? = some v → w'.cell? (ad.add j) = some v := by
  intro h
  have h2 := hv.grow hk
  obtain ⟨A, c, he, _, _, h3⟩ := hv
  injection he with he _ _
  subst he
  obtain ⟨b, o, rfl, _⟩ := h3 (by simpa using h)
  exact ⟨_, rfl, h2.cells⟩

theorem put_some (g n c : Nat) (cur : List Value) (off : Nat) (B : Option Addr) (d : Nat) (xs : List UInt8) (w : World) (hr : w.heap[g]? = some (.cells cur.toArray 5 (0, 0))) (hn : n ≤ c) (hc : cur.length = c) (hm : c ≤ 9223372036854775807)
    (hfit : off + xs.length ≤ n) (hv : BytesAt w (.slice B xs.length d) xs) (hlt : off < c) :
    Calls Tryz.prog 52 #[.agg #[.slice (some ⟨g, 0, none⟩) n c], .agg #[.int .i64 off, .slice B xs.length d]] w fun e w' => e = .returned (.tuple #[]) ∧ w'.heap[g]? = some (.cells (splice cur off (xs.map bv)).toArray 5 (0, 0)) ∧ Keeps [g] w w' := by
  have h1a : 0 ≤ (off : Int) := by omega
  have h1b : (off : Int) ≤ (n : Int) := by omega
  have h1c : (n : Int) ≤ (c : Int) := by omega
  have hco : ¬ c = off := by omega
  have HR : Hid (w.heap[g]? = some (.cells cur.toArray 5 (0, 0))) := hr
  have hgs := lt_of_heap hr
  have HK := fun o1 o2 => Lib.hid (((Keeps.refl [] w).alloc o1).alloc o2)
  have HV := Lib.hid hv
  have HC := Lib.hid hc
  have H1 : Hid ((xs.map bv).length = Nat.min xs.length (n - off)) := by show (xs.map bv).length = _; rw [List.length_map]; exact (Nat.min_eq_left (by omega)).symm
  have H2 : Hid (off + (xs.map bv).length ≤ cur.length) := by show off + (xs.map bv).length ≤ _; rw [List.length_map, hc]; omega
  clear hr hv hc
  go_enter Tryz.func52, Tryz.ntmps52
  go_wp2
  go_region_law (refine step_copy_keep rfl (.tmp 8) (.tmp 10) 55 55 rfl 5 Tryz.underlying55 u8_size _ _ _ _ _ _ rfl rfl g off cur 5 (((HK _ _).out.block g hgs (by simp)).trans HR.out) (xs.map bv) H1.out (fun h => ⟨rfl, put_cs HV.out (HK _ _).out.drew h⟩) H2.out bvs_one ?_; intro w2 hw2 hk2)
  all_goals
    go_end0
    exact ⟨rfl, hw2.out, ((HK _ _).out.drew.mono (by simp)).trans hk2.out (by simp)⟩

theorem put_end (g n c : Nat) (cur : List Value) (B : Option Addr) (d : Nat) (w : World) (hn : n ≤ c) (hm : c ≤ 9223372036854775807) (off : Nat) (hfit : off = n) (hlt : off = c) :
    Calls Tryz.prog 52 #[.agg #[.slice (some ⟨g, 0, none⟩) n c], .agg #[.int .i64 off, .slice B 0 d]] w fun e w' => e = .returned (.tuple #[]) ∧ Keeps [] w w' := by
  have h1a : 0 ≤ (off : Int) := by omega
  have h1b : (off : Int) ≤ (n : Int) := by omega
  have h1c : (n : Int) ≤ (c : Int) := by omega
  subst hfit
  subst hlt
  have hcp := fun (W : World) (D : Option Addr) (e f : Nat) => run_copy_none (P := Tryz.prog) W 55 55 3 5 D B e f 0 d Tryz.underlying55 u8_size (by simp)
  go_enter Tryz.func52, Tryz.ntmps52
  go_wp2
  go_region
  all_goals
    go_end0
    exact ⟨rfl, ((((Keeps.refl [] w).alloc _).alloc _).drew)⟩

/-- Bytes of a row, some of them laid anew. -/
def laid (S : List UInt8) (off : Nat) (xs : List UInt8) : List UInt8 := S.take off ++ (xs ++ S.drop (off + xs.length))
theorem length_laid {S : List UInt8} {off : Nat} {xs : List UInt8} (h : off + xs.length ≤ S.length) : (laid S off xs).length = S.length := by simp [laid]; omega

theorem splice_take {cur : List Value} {n off : Nat} {S xs : List UInt8} (h : cur.take n = S.map bv) (hn : n = S.length) (hf : off + xs.length ≤ n) (hc : n ≤ cur.length) : (splice cur off (xs.map bv)).take n = (laid S off xs).map bv := by
  have h2 : cur = S.map bv ++ cur.drop n := by rw [← h, List.take_append_drop]
  have hl : (S.map bv).length = n := by simp [hn]
  rw [h2]
  generalize cur.drop n = R
  have e1 : (S.map bv ++ R).take off = (S.take off).map bv := by rw [List.take_append_of_le_length (by omega), List.map_take]
  have e2 : (S.map bv ++ R).drop (off + (xs.map bv).length) = (S.drop (off + xs.length)).map bv ++ R := by
    rw [List.drop_append_of_le_length (by simp; omega), List.map_drop, List.length_map]
  unfold splice
  rw [e1, e2]
  have e3 : (S.take off).map bv ++ (xs.map bv ++ ((S.drop (off + xs.length)).map bv ++ R)) = (laid S off xs).map bv ++ R := by simp [laid, List.append_assoc]
  rw [e3, List.take_append_of_le_length (by rw [List.length_map, length_laid (by omega)]; omega), List.take_of_length_le (by rw [List.length_map, length_laid (by omega)]; omega)]

/-- put: the row's bytes, those of the write laid anew. -/
theorem put_any (g c : Nat) (S : List UInt8) (base off : Nat) (v : Value) (xs : List UInt8) (w : World) (hr : w.ownsRow base 5 1 (.slice (some ⟨g, 0, none⟩) S.length c) S.length (S.map bv))
    (hfit : off + xs.length ≤ S.length) (hv : BytesAt w v xs) :
    Calls Tryz.prog 52 #[.agg #[.slice (some ⟨g, 0, none⟩) S.length c], .agg #[.int .i64 off, v]] w fun e w' => e = .returned (.tuple #[]) ∧ w'.ownsRow base 5 1 (.slice (some ⟨g, 0, none⟩) S.length c) S.length ((laid S off xs).map bv) ∧ Keeps [g] w w' := by
  have hv0 := hv
  obtain ⟨B, d, rfl, hd1, hd2, hd3⟩ := hv
  rcases hr.2 with ⟨h, _⟩ | ⟨g', cap, cur, he, hb, hh, hnc, hcm, hcs, htk⟩
  · cases h
  · injection he with he1 _ he3
    injection he1 with he1
    injection he1 with he1
    subst he1
    subst he3
    unfold maxLen at hcm
    rw [Nat.mul_one] at hcs htk
    by_cases hlt : off < c
    · refine (put_some g S.length c cur.toList off B d xs w (by simpa using hh) hnc (by simpa using hcs) (by omega) hfit hv0 hlt).mono ?_
      rintro e w' ⟨rfl, h1, h2⟩
      refine ⟨rfl, ⟨by rw [List.length_map, length_laid hfit]; omega, .inr ⟨g, c, _, rfl, hb, h1, hnc, by unfold maxLen; omega, ?_, ?_⟩⟩, h2⟩
      · simp only [List.size_toArray, Nat.mul_one]
        rw [length_splice _ _ _ (by simp; omega)]
        simpa using hcs
      · rw [Nat.mul_one]
        exact splice_take htk rfl hfit (by simp; omega)
    · have h0 : xs.length = 0 := by omega
      have hx : xs = [] := List.eq_nil_of_length_eq_zero h0
      subst hx
      refine (put_end g S.length c cur.toList B d w hnc (by omega) off (by simp at hfit; omega) (by simp at hfit; omega)).mono ?_
      rintro e w' ⟨rfl, h2⟩
      have hS : laid S off [] = S := by simp [laid]
      rw [hS]
      exact ⟨rfl, own_keep hr h2 (by simp), h2.mono (by simp)⟩

end Go.Proofs.YthgpjlmdllihmaaGreat
/- How a disk lies in memory; New and fresh make one. -/
namespace Go.Proofs.YthgpjlmdllihmaaGreat
open Go.RowKit
set_option linter.unusedVariables false

/-- A write that waits: its place, the slice value of its bytes, the bytes. -/
structure Wt where
  off : Nat
  v : Value
  xs : List UInt8

def wcells (W : List Wt) : List Value := W.flatMap fun x => [.int .i64 (x.off : Int), x.v]

/-- A disk: the blocks of the struct, of what stands, of what lasts (with capacities), the slice of what waits; and what they hold. -/
structure Dk where
  p : Nat
  s : Nat
  cs : Nat
  l : Nat
  cl : Nat
  q : Value
  S : List UInt8
  L : List UInt8
  W : List Wt
  lim : Nat
  left : Int
  done : Nat

def Dk.sv (k : Dk) : Value := .slice (some ⟨k.s, 0, none⟩) k.S.length k.cs
def Dk.lv (k : Dk) : Value := .slice (some ⟨k.l, 0, none⟩) k.L.length k.cl
def Dk.cells (k : Dk) : Array Value := #[k.sv, k.lv, k.q, .int .i64 (k.lim : Int), .int .i64 k.left, .int .i64 (k.done : Int)]
/-- The blocks that a disk's own calls may turn. -/
def Dk.fp (k : Dk) : List Nat := k.p :: k.s :: k.l :: k.q.ownBlock.toList
/-- All its blocks: the writes' bytes, too. -/
def Dk.all (k : Dk) : List Nat := k.fp ++ k.W.filterMap fun x => x.v.ownBlock

structure DiskAt (w : World) (k : Dk) : Prop where
  blk : w.heap[k.p]? = some (.cells k.cells 78 (0, 0))
  st : w.ownsRow 0 5 1 k.sv k.S.length (k.S.map bv)
  la : w.ownsRow 0 5 1 k.lv k.L.length (k.L.map bv)
  wa : w.ownsRow 0 86 2 k.q k.W.length (wcells k.W)
  sl : k.s ≠ k.l
  len : k.L.length = k.S.length
  pos : 0 < k.S.length
  big : k.S.length ≤ 262144
  fit : ∀ x ∈ k.W, BytesAt w x.v x.xs ∧ x.off + x.xs.length ≤ k.S.length ∧ ∀ b, x.v.ownBlock = some b → b < w.heap.size ∧ b ∉ k.fp
  lim : k.lim ≤ k.S.length
  lo : -1 ≤ k.left
  hi : k.left ≤ 9223372036854775807

theorem fp_sub {k : Dk} {b : Nat} (h : b ∈ k.fp) : b ∈ k.all := List.mem_append_left _ h

theorem own_heap {w : World} {base : Nat} {e : TypeId} {z n : Nat} {v : Value} {xs : List Value} (h : w.ownsRow base e z v n xs) {b : Nat} (hb : v.ownBlock = some b) : ∃ cur, w.heap[b]? = some (.cells cur e (0, 0)) := by
  rcases h.2 with ⟨rfl, _⟩ | ⟨g, cap, cur, rfl, _, hh, _⟩
  · cases hb
  · simp only [Value.ownBlock, Option.some.injEq] at hb
    subst hb
    exact ⟨cur, hh⟩

theorem ne_of_types {w : World} {b b' : Nat} {c c' : Array Value} {t t' : TypeId} (h : w.heap[b]? = some (.cells c t (0, 0))) (h' : w.heap[b']? = some (.cells c' t' (0, 0))) (hn : t ≠ t') : b ≠ b' := by
  rintro rfl
  rw [h] at h'
  injection h' with h'
  injection h' with _ h2
  exact hn h2

section
variable {w w' : World} {k : Dk} {bs : List Nat}

theorem DiskAt.lt (h : DiskAt w k) : ∀ b ∈ k.all, b < w.heap.size := by
  intro b hb
  rcases List.mem_append.1 hb with hb | hb
  · simp only [Dk.fp, List.mem_cons, Option.mem_toList] at hb
    rcases hb with rfl | rfl | rfl | hb
    · exact lt_of_heap h.blk
    · exact (h.st.lt _ rfl).2
    · exact (h.la.lt _ rfl).2
    · exact (h.wa.lt _ hb).2
  · obtain ⟨x, hx, hb⟩ := List.mem_filterMap.1 hb
    exact ((h.fit x hx).2.2 b hb).1

theorem DiskAt.keep (h : DiskAt w k) (hk : Keeps bs w w') (hd : ∀ b ∈ k.all, b ∉ bs) : DiskAt w' k := by
  have hp : k.p ∉ bs := hd _ (fp_sub (by simp [Dk.fp]))
  have hs : k.s ∉ bs := hd _ (fp_sub (by simp [Dk.fp]))
  have hl : k.l ∉ bs := hd _ (fp_sub (by simp [Dk.fp]))
  refine ⟨(hk.block _ (lt_of_heap h.blk) hp).trans h.blk, own_keep h.st hk ?_, own_keep h.la hk ?_, own_keep h.wa hk ?_, h.sl, h.len, h.pos, h.big, ?_, h.lim, h.lo, h.hi⟩
  · intro b hb; simp only [Dk.sv, Value.ownBlock, Option.some.injEq] at hb; subst hb; exact hs
  · intro b hb; simp only [Dk.lv, Value.ownBlock, Option.some.injEq] at hb; subst hb; exact hl
  · intro b hb; exact hd _ (fp_sub (by simp [Dk.fp, hb]))
  · intro x hx
    obtain ⟨h1, h2, h3⟩ := h.fit x hx
    refine ⟨h1.keep hk ?_, h2, fun b hb => ⟨Nat.lt_of_lt_of_le (h3 b hb).1 hk.size, (h3 b hb).2⟩⟩
    intro b hb
    exact hd _ (List.mem_append_right _ (List.mem_filterMap.2 ⟨x, hx, hb⟩))

theorem DiskAt.grow (h : DiskAt w k) (hk : Keeps [] w w') : DiskAt w' k := h.keep hk (by simp)
theorem DiskAt.cell (h : DiskAt w k) (i : Nat) : w.cell? ⟨k.p, i, none⟩ = k.cells[i]? := cell_of_blk h.blk i
theorem DiskAt.free (h : DiskAt w k) (i : Nat) : w.frozen? ⟨k.p, i, none⟩ = false := free_of_blk h.blk i
theorem DiskAt.c0 (h : DiskAt w k) : w.cell? ⟨k.p, 0, none⟩ = some (.slice (some ⟨k.s, 0, none⟩) k.S.length k.cs) := h.cell 0
theorem DiskAt.c1 (h : DiskAt w k) : w.cell? ⟨k.p, 1, none⟩ = some (.slice (some ⟨k.l, 0, none⟩) k.L.length k.cl) := h.cell 1
theorem DiskAt.c2 (h : DiskAt w k) : w.cell? ⟨k.p, 2, none⟩ = some k.q := h.cell 2
theorem DiskAt.c3 (h : DiskAt w k) : w.cell? ⟨k.p, 3, none⟩ = some (.int .i64 (k.lim : Int)) := h.cell 3
theorem DiskAt.c4 (h : DiskAt w k) : w.cell? ⟨k.p, 4, none⟩ = some (.int .i64 k.left) := h.cell 4
theorem DiskAt.c5 (h : DiskAt w k) : w.cell? ⟨k.p, 5, none⟩ = some (.int .i64 (k.done : Int)) := h.cell 5
theorem DiskAt.nps (h : DiskAt w k) : k.p ≠ k.s := by obtain ⟨c, hc⟩ := own_heap h.st (b := k.s) rfl; exact ne_of_types h.blk hc (by decide)
theorem DiskAt.npl (h : DiskAt w k) : k.p ≠ k.l := by obtain ⟨c, hc⟩ := own_heap h.la (b := k.l) rfl; exact ne_of_types h.blk hc (by decide)
theorem DiskAt.npq (h : DiskAt w k) : k.q.ownBlock ≠ some k.p := by intro hb; obtain ⟨c, hc⟩ := own_heap h.wa hb; exact ne_of_types h.blk hc (by decide) rfl
theorem DiskAt.nsq (h : DiskAt w k) : k.q.ownBlock ≠ some k.s := by intro hb; obtain ⟨c, hc⟩ := own_heap h.wa hb; obtain ⟨d, hd⟩ := own_heap h.st (b := k.s) rfl; exact ne_of_types hd hc (by decide) rfl
theorem DiskAt.nlq (h : DiskAt w k) : k.q.ownBlock ≠ some k.l := by intro hb; obtain ⟨c, hc⟩ := own_heap h.wa hb; obtain ⟨d, hd⟩ := own_heap h.la (b := k.l) rfl; exact ne_of_types hd hc (by decide) rfl
end

/-- What fresh makes. -/
def freshDk (g c : Nat) (S : List UInt8) (lim p l cl : Nat) : Dk := ⟨p, g, c, l, cl, .slice none 0 0, S, S, [], lim, -1, 0⟩

theorem fresh_end {g c : Nat} {S : List UInt8} {lim : Nat} {w w1 : World} {A1 : Option Addr} {c1 : Nat} (hr : w.ownsRow 0 5 1 (.slice (some ⟨g, 0, none⟩) S.length c) S.length (S.map bv)) (h0 : 0 < S.length) (h1 : S.length ≤ 262144) (h2 : lim ≤ S.length)
    (ho : w1.ownsRow (w.heap.size + 1) 5 1 (.slice A1 S.length c1) S.length (S.map bv)) (hk : Keeps [] w w1) :
    ∃ l, A1 = some ⟨l, 0, none⟩ ∧ w.heap.size ≤ l ∧ DiskAt (w1.alloc (.cells #[.slice (some ⟨g, 0, none⟩) S.length c, .slice A1 S.length c1, .slice none 0 0, .int .i64 (lim : Int), .int .i64 (-1), .int .i64 0] 78)) (freshDk g c S lim w1.heap.size l c1) := by
  obtain ⟨l, cap, hv, hl, _⟩ := ho.form h0
  injection hv with hv1 _ hv3
  subst hv1
  have hgl : g < w.heap.size := (hr.lt g rfl).2
  have hk2 : Keeps [] w1 (w1.alloc (.cells #[.slice (some ⟨g, 0, none⟩) S.length c, .slice (some ⟨l, 0, none⟩) S.length c1, .slice none 0 0, .int .i64 (lim : Int), .int .i64 (-1), .int .i64 0] 78)) := (Keeps.refl _ _).alloc _
  refine ⟨l, rfl, by omega, heap_alloc_new _ _, own_keep hr (hk.trans' hk2) (by simp), own_keep (ho.mono (Nat.zero_le _)) hk2 (by simp), World.ownsRow_nil _ _ _ _, ?_, rfl, h0, h1, by simp [freshDk], h2, by simp [freshDk], by simp [freshDk]⟩
  simp only [freshDk]
  omega

theorem fresh_any (g c : Nat) (S : List UInt8) (lim : Nat) (w : World) (hr : w.ownsRow 0 5 1 (.slice (some ⟨g, 0, none⟩) S.length c) S.length (S.map bv)) (h0 : 0 < S.length) (h1 : S.length ≤ 262144) (h2 : lim ≤ S.length) :
    Calls Tryz.prog 20 #[.agg #[.slice (some ⟨g, 0, none⟩) S.length c], .int .i64 (lim : Int)] w fun e w' => ∃ p l cl, e = .returned (.pointer (some ⟨p, 0, none⟩)) ∧ DiskAt w' (freshDk g c S lim p l cl) ∧ w.heap.size ≤ p ∧ w.heap.size ≤ l ∧ Keeps [] w w' := by
  have HB := Lib.hid (BytesAt.of_own hr)
  have HR := Lib.hid hr
  clear hr
  go_enter Tryz.func20, Tryz.ntmps20
  go_wp2
  go_region_with (go_at_call 39; refine (another_any _ _ S _ (by omega) (HB.out.grow (((Keeps.refl [] w)).alloc _).drew)).mono ?_; rintro e w1 ⟨A1, c1, rfl, ho, hb⟩; have hx1 := (hb.cell (p := ⟨w.heap.size, 0, none⟩) (by simp)); simp at hx1)
  all_goals
    have hk : Keeps [] w w1 := (((Keeps.refl [] w).alloc _).drew).trans' (Keeps.of_below hb)
    obtain ⟨l, rfl, hl, HD⟩ := fresh_end HR.out h0 h1 h2 (by simpa using ho) hk
    have HD' := Lib.hid HD
    clear HD
    go_wp2
    go_ret
    exact ⟨_, l, c1, rfl, HD'.out, hk.size, hl, hk.alloc _⟩

theorem madeB (n : Nat) : (madeCells #[Value.int .u8 0] n).toList = (List.replicate n (0 : UInt8)).map bv := by rw [toList_madeCells_one]; simp [bv]

/-- New: refused but for 1 to 2^18 bytes. -/
theorem new_no (size : Int) (w : World) (h : size < 1 ∨ 262144 < size) : Calls Tryz.prog 7 #[.int .i64 size] w fun e w' => e = .returned (.tuple #[.pointer none, .int .i64 2]) ∧ w = w' := by
  rcases h with h | h
  · go_enter Tryz.func7, Tryz.ntmps7
    go_wp2
    refine wp_scope_once 0 rfl ?_
    go_wp2
    go_step3
    refine ⟨rfl, ?_⟩
    go_wp2
    rw [Exit.noGoto_ret]
    go_ret2
    exact ⟨rfl, rfl⟩
  · have h' : ¬ size < 1 := by omega
    go_enter Tryz.func7, Tryz.ntmps7
    go_wp2
    refine wp_scope_once 0 rfl ?_
    go_wp2
    go_step3
    refine ⟨rfl, ?_⟩
    go_wp2
    rw [Exit.noGoto_ret]
    go_ret2
    exact ⟨rfl, rfl⟩

theorem fresh_len (g c n : Nat) (S : List UInt8) (lim : Nat) (w : World) (hn : S.length = n) (hr : w.ownsRow 0 5 1 (.slice (some ⟨g, 0, none⟩) n c) n (S.map bv)) (h0 : 0 < n) (h1 : n ≤ 262144) (h2 : lim ≤ n) :
    Calls Tryz.prog 20 #[.agg #[.slice (some ⟨g, 0, none⟩) n c], .int .i64 (lim : Int)] w fun e w' => ∃ p l cl, e = .returned (.pointer (some ⟨p, 0, none⟩)) ∧ DiskAt w' (freshDk g c S lim p l cl) ∧ w.heap.size ≤ p ∧ w.heap.size ≤ l ∧ Keeps [] w w' := by
  subst hn
  exact fresh_any g c S lim w hr h0 h1 h2

theorem made_own {w : World} {n g : Nat} (h : w.ownsRow 0 5 1 (.slice (some ⟨g, 0, none⟩) n n) n (madeCells (Value.int .u8 0).cells (n * 1)).toList) : w.ownsRow 0 5 1 (.slice (some ⟨g, 0, none⟩) n n) n ((List.replicate n (0 : UInt8)).map bv) := by
  have e : (madeCells (Value.int .u8 0).cells (n * 1)).toList = (List.replicate n (0 : UInt8)).map bv := by rw [Nat.mul_one]; exact madeB n
  rwa [e] at h

set_option maxRecDepth 100000 in
theorem new_yes (n : Nat) (w : World) (h0 : 1 ≤ n) (h1 : n ≤ 262144) : Calls Tryz.prog 7 #[.int .i64 (n : Int)] w fun e w' => ∃ k, e = .returned (.tuple #[.pointer (some ⟨k.p, 0, none⟩), .int .i64 0]) ∧ DiskAt w' k ∧ k.S = List.replicate n 0 ∧ k.L = List.replicate n 0 ∧ k.W = [] ∧ k.lim = n ∧ k.left = -1 ∧ k.done = 0 ∧ (∀ b ∈ k.all, w.heap.size ≤ b) ∧ Keeps [] w w' := by
  have ha : ¬ (n : Int) < 1 := by omega
  have hb : ¬ (262144 : Int) < n := by omega
  obtain ⟨i0, hi, hz0, hz1, hz2⟩ := info_parts u8_info
  have hi2 : i0.bytes * n ≤ 281474976710656 := by rw [hz2]; omega
  have hm : n ≤ maxLen := by unfold maxLen; omega
  go_enter Tryz.func7, Tryz.ntmps7
  go_wp2
  refine wp_scope_once 0 rfl ?_
  go_wp2_with (first
    | (at_make; refine wpList_make_full _ rfl _ _ _ rfl 0 5 i0 (.int .u8 0) 1 Tryz.underlying55 hi hz0 hz1 .i64 .i64 _ _ n rfl rfl rfl rfl hi2 hm (Nat.zero_le _) ?_; intro w1 hown hg)
    | (go_at_call 20; refine (fresh_len w.heap.size n n (List.replicate n 0) n w1 (by simp) (made_own hown) (by omega) (by omega) (Nat.le_refl _)).mono ?_; rintro e w2 ⟨p, l, cl, rfl, HD, hp, hl, hk⟩))
  simp only [Exit.jump]
  go_ret2
  have hk1 : Keeps [] w w1 := Keeps.of_grown hg (by simp)
  refine ⟨freshDk w.heap.size n (List.replicate n 0) n p l cl, rfl, HD, rfl, rfl, rfl, rfl, rfl, rfl, ?_, hk1.trans' hk⟩
  intro b hb
  have := hk1.size
  simp [Dk.all, Dk.fp, freshDk, Value.ownBlock] at hb
  omega

end Go.Proofs.YthgpjlmdllihmaaGreat
