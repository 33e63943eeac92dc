/- Texts of one proof, laid together: Y16 Y17. -/
import Derived.Test.YtebocagkpkpghaaGreatDoorMA6
import Derived.Test.YtebocagkpkpghaaGreatDoorM93
import Derived.BigQuiet
import Derived.Test.YtebocagkpkpghaaGreatDoorRows
import Derived.Test.YtebocagkpkpghaaGreatDoorMA1
import Derived.ProofKit
import Derived.LaidMore
import Derived.OpenShut
import Derived.Stop.Joined
import Derived.Stop.LaidErr
import Derived.Lib.LaidTab
/- entry: the document's Read; walked. -/
namespace Go.Proofs.YtebocagkpkpghaaGreatDoor
open Go.RowKit Go.Shelf
set_option linter.unusedVariables false
set_option linter.unusedSimpArgs false
set_option maxRecDepth 100000

/-- What a call of the document's Read answers. -/
def RreQ (p : Option (List Att)) (w : World) (e : Ending) (w' : World) : Prop :=
  ∃ A n c, e = .returned (.tuple #[.slice A n c, .bool p.isSome]) ∧ EntQ (p.getD []) w A n c w' ∧ Keeps [] w w'
theorem RreQ.no {w w' : World} (h : Keeps [] w w') : RreQ none w (.returned (.tuple #[.slice none 0 0, .bool false])) w' := ⟨none, 0, 0, rfl, EntQ.nil w w', h⟩
theorem cutD_len (b : UInt8) (T : Txt) : (cutD b T).1.length ≤ T.length ∧ (cutD b T).2.1.length ≤ T.length ∧ ((cutD b T).2.2 = true → (cutD b T).2.1.length < T.length) := by
  have h1 := cutP_len (b := b) T
  have h2 := cutP_rest (b := b) T
  have h3 := cutP_less (b := b) (s := T)
  unfold cutD
  generalize cutP b T = p at h1 h2 h3 ⊢
  obtain ⟨x, y⟩ := p
  cases y with
  | none => exact ⟨Nat.zero_le _, Nat.zero_le _, fun h => by cases h⟩
  | some y => exact ⟨h1, h2, fun _ => h3 rfl⟩
theorem numD_le (most : Nat) (T : Txt) : numD most T ≤ most := by
  by_cases h : numD most T = 0
  · omega
  · exact (numD_yes h).2.2
theorem rattsD_next {f : Nat} {e : List Att} {s : Txt} (h : ¬ s = []) : rattsD (f + 1) e s = match rattD s with | none => none | some p => rattsD f (e ++ [p.1]) p.2 := by
  show (if s = [] then _ else _) = _
  rw [if_neg h]
  rfl
theorem rattsD_end {f : Nat} {e : List Att} : rattsD f e [] = some e := by
  cases f with
  | zero => rfl
  | succ f => show (if _ then _ else _) = _; rw [if_pos rfl]
theorem readD_none {s : Txt} (h : rattsD (s.length + 1) [] s = none) : readD s = none := by unfold readD; rw [h]
theorem readD_some {s : Txt} {e : List Att} (h : rattsD (s.length + 1) [] s = some e) : readD s = if entOk e = true then some e else none := by unfold readD; rw [h]
theorem rvalsD_less : ∀ (n : Nat) {acc vs : List Txt} {s t : Txt}, rvalsD n acc s = some (vs, t) → t.length ≤ s.length
  | 0, acc, vs, s, t, h => by
    unfold rvalsD at h
    injection h with h
    injection h with _ h
    rw [h]
    exact Nat.le_refl _
  | n + 1, acc, vs, s, t, h => by
    unfold rvalsD at h
    cases hv : rvalD s with
    | none => rw [hv] at h; cases h
    | some p =>
      rw [hv] at h
      have h1 := rvalsD_less n h
      obtain ⟨v, u⟩ := p
      have h2 := valS_less (r := (s, false)) (by rw [rvalD_yes hv])
      rw [rvalD_yes hv] at h2
      exact Nat.le_trans h1 (Nat.le_of_lt h2.1)
/-- The Values that an attribute has so far, in a box of its own. -/
structure ValI (w0 wr : World) (B : Nat) (nm : Txt) (A : Option Addr) (m c : Nat) (xs : List Txt) : Prop where
  box : wr.heap[B]? = some (.cells #[tv nm, .slice A m c] 59 (0, 0))
  row : wr.ownsRow (B + 1) 9 1 (.slice A m c) m (xs.map tv)
  len : xs.length = m
  txt : ∀ s ∈ xs, s.length ≤ 9223372036854775807
  keep : Keeps [] w0 wr
  lo : w0.heap.size ≤ B
theorem ValI.cells {w0 wr : World} {B : Nat} {nm : Txt} {A : Option Addr} {m c : Nat} {xs : List Txt} (h : ValI w0 wr B nm A m c xs) : (wr.cell? ⟨B, 0, none⟩ = some (.string ⟨nm.toArray⟩) ∧ wr.cell? ⟨B, 1, none⟩ = some (.slice A m c)) ∧ (wr.frozen? ⟨B, 0, none⟩ = false ∧ wr.frozen? ⟨B, 1, none⟩ = false) := blk2 h.box
theorem ValI.on {w0 wr w' : World} {B : Nat} {nm : Txt} {A : Option Addr} {m c : Nat} {xs : List Txt} (h : ValI w0 wr B nm A m c xs) (k : Keeps [] wr w') : ValI w0 w' B nm A m c xs :=
  ⟨blk_keep h.box k (by simp), own_keep h.row k (by simp), h.len, h.txt, h.keep.trans' k, h.lo⟩
theorem ValI.snoc {w0 wr w5 : World} {B : Nat} {nm v : Txt} {A A5 : Option Addr} {m c c5 : Nat} {xs : List Txt} (h : ValI w0 wr B nm A m c xs) (hg : wr.grownBy w5 (Value.slice A m c).ownBlock) (ho : w5.ownsRow (B + 1) 9 1 (.slice A5 (m + 1) c5) (m + 1) (xs.map tv ++ [tv v])) (hv : v.length ≤ 1000000000) : ValI w0 (w5.setCell ⟨B, 1, none⟩ (.slice A5 (m + 1) c5)) B nm A5 (m + 1) c5 (xs ++ [v]) := by
  have hlo := h.lo
  have hblk : ∀ y ∈ (Value.slice A m c).ownBlock.toList, B + 1 ≤ y := fun y hy => by
    have h9 : (Value.slice A m c).ownBlock = some y := by simpa using hy
    exact (h.row.lt y h9).1
  have k5 : Keeps ((Value.slice A m c).ownBlock.toList) wr w5 := Keeps.of_grown hg (fun x hx => .inl (by rw [hx]; simp))
  have k6 : Keeps [B] w5 (w5.setCell ⟨B, 1, none⟩ (.slice A5 (m + 1) c5)) := (Keeps.refl [B] w5).setCell (.inl (by simp)) _
  have n5 : B ∉ (Value.slice A m c).ownBlock.toList := fun hm => by have := hblk B hm; omega
  refine ⟨heap_setCell_same w5 B 1 _ _ _ (blk_keep h.box k5 n5), ?_, by rw [List.length_append, h.len]; rfl, fun x hx => ?_, ?_, hlo⟩
  · rw [List.map_append]
    exact own_keep ho k6 (fun b hb hm => by have := (ho.lt b hb).1; simp at hm; omega)
  · rcases List.mem_append.1 hx with hx | hx
    · exact h.txt x hx
    · rw [List.mem_singleton.1 hx]; omega
  · exact (h.keep.trans k5 (fun x hx => .inr (by have := hblk x hx; omega))).trans k6 (fun x hx => .inr (by rw [List.mem_singleton.1 hx]; omega))
/-- An entry's attributes, and one more. -/
theorem ents_snoc7 {w wr w3 w4 w5 : World} {A A2 A5 : Option Addr} {j c m c2 c5 : Nat} {L : List At7} {e : List Att} {nm : Txt} {vs : List Txt} (h : EntS w wr A j c L e) (k3 : Keeps [] wr w3) (k4 : Keeps [] w3 w4)
    (hr : w3.ownsRow wr.heap.size 9 1 (.slice A2 m c2) m (vs.map tv)) (hl : vs.length = m) (ht : ∀ s ∈ vs, s.length ≤ 9223372036854775807) (hn : nm.length ≤ 9223372036854775807)
    (hg : w4.grownBy w5 (Value.slice A j c).ownBlock) (ho : w5.ownsRow w.heap.size 59 2 (.slice A5 (j + 1) c5) (j + 1) (atCells L ++ [tv nm, .slice A2 m c2])) :
    EntS w w5 A5 (j + 1) c5 (L ++ [⟨nm, A2, m, c2, vs⟩]) (e ++ [(nm, vs)]) := by
  have k34 := k3.trans' k4
  have hrow4 := own_keep h.row k34 (by simp)
  have hro5 : RowOk w4 w.heap.size ⟨nm, A2, m, c2, vs⟩ := ⟨own_keep (own_base7 hr (h.keep).size) k4 (by simp), hl, ht, hn⟩
  refine ⟨?_, by rw [List.length_append, h.len]; rfl, by rw [atCells_snoc]; exact ho, fun x hx => ?_, keeps_own7 hrow4 (h.keep.trans' k34) hg⟩
  · rw [← h.ents]
    simp [ents, At7.att]
  · rcases List.mem_append.1 hx with hx | hx
    · exact ((h.rows x hx).keep k34 (by simp)).beside hrow4 hg
    · simp at hx
      subst hx
      exact hro5.beside hrow4 hg
def lenOf : Value → Nat
  | .string s => s.size
  | _ => 0
set_option maxHeartbeats 8000000 in
theorem rread_is (s : Txt) (w : World) (hs : s.length ≤ 90000) :
    Calls Tryz.prog 28 #[tv s] w (RreQ (readD s) w) := by
  obtain ⟨iu, hiu, hzu0, hzu1, hzu2⟩ := info_parts attr_info7
  obtain ⟨ju, hju, hyu0, hyu1, hyu2⟩ := info_parts str_info7
  obtain ⟨P, hP⟩ : ∃ P, readD s = P := ⟨_, rfl⟩
  have HP := Lib.hid hP
  rw [hP]
  clear hP
  unfold tv
  go_enter Tryz.func28, Tryz.ntmps28
  go_wp2_with fail
  go_loopw [0, 4] (fun x d wr => ∃ (A : Option Addr) (c j f : Nat) (L : List At7) (e : List Att) (T : Txt), x = .string ⟨T.toArray⟩ ∧ d = .slice A j c ∧ j + T.length ≤ 90000 ∧ Hid (EntS w wr A j c L e) ∧ Hid (∀ a ∈ L, a.n ≤ 100000) ∧ Hid (T.length < f) ∧ Hid (rattsD (s.length + 1) [] s = rattsD f e T)) (fun x _ _ => lenOf x)
  case atStart => exact ⟨none, 0, 0, s.length + 1, [], [], s, rfl, rfl, by omega, ⟨rfl, rfl, World.ownsRow_nil _ _ _ _, by simp, Keeps.refl _ _⟩, by simp [Hid], Nat.lt_succ_self _, rfl⟩
  case round =>
    obtain ⟨A, c, j, f, L, e, T, rfl, rfl, hjt, HS, HFW, HF, HV⟩ := hrel
    obtain ⟨z, hz⟩ : ∃ z, (T == ([] : Txt)) = z := ⟨_, rfl⟩
    obtain ⟨hs1, hs2, hs3⟩ := tx_beq T [] z hz
    cases z
    · have hne : ¬ T = [] := by simpa using hz
      have hie : List.isEmpty T = false := by simpa using hne
      have HTL : Hid (T.length ≤ 90000) := by show _ ≤ _; omega
      have hj9 : j ≤ 90000 := by omega
      obtain ⟨f2, rfl⟩ : ∃ f2, f = f2 + 1 := ⟨f - 1, by have := HF.out; omega⟩
      have HV2 := Lib.hid (HV.out.trans (rattsD_next hne))
      have HA : Hid (rattD T = if (cutD 32 T).2.2 = false then none else if (cutD 10 (cutD 32 T).2.1).2.2 = false then none else if numD 16 (cutD 10 (cutD 32 T).2.1).1 = 0 then none else
        match rvalsD (numD 16 (cutD 10 (cutD 32 T).2.1).1) [] (cutD 10 (cutD 32 T).2.1).2.1 with
        | none => none
        | some p => some (((cutD 32 T).1, p.1), p.2)) := rfl
      have HC1 := Lib.hid (rcut7_is T 32 wr (by have := HTL.out; omega))
      have HL1 := Lib.hid (cutD_len 32 T)
      rw [show (((32 : UInt8).toNat : Nat) : Int) = 32 from rfl] at HC1
      generalize cutD 32 T = q1 at HA HC1 HL1
      obtain ⟨nm, rest, is⟩ := q1
      dsimp only at HA HC1 HL1
      have HC2 := Lib.hid (fun X => rcut7_is rest 10 X (by have := HTL.out; have := HL1.out.2.1; omega))
      have HL2 := Lib.hid (cutD_len 10 rest)
      rw [show (((10 : UInt8).toNat : Nat) : Int) = 10 from rfl] at HC2
      generalize cutD 10 rest = q2 at HA HC2 HL2
      obtain ⟨many, left, it⟩ := q2
      dsimp only at HA HC2 HL2
      have HC3 := Lib.hid (fun X => rnumd_is many 16 X (by have := HTL.out; have := HL1.out.2.1; have := HL2.out.1; omega) (by decide))
      have hN16 := numD_le 16 many
      rw [show ((16 : Nat) : Int) = 16 from rfl] at HC3
      generalize numD 16 many = N at HA HC3 hN16
      have HLL : Hid (left.length ≤ 90000 ∧ (is = true → left.length < T.length) ∧ nm.length ≤ 90000) := ⟨by have := HTL.out; have := HL1.out.2.1; have := HL2.out.2.1; omega, fun h => by have := HL1.out.2.2 h; have := HL2.out.2.1; omega, by have := HTL.out; have := HL1.out.1; omega⟩
      have HNO : Hid (rattD T = none → P = none) := fun h => by
        have h9 := HV2.out
        rw [h] at h9
        rw [← HP.out, readD_none h9]
      unfold tv at HC1 HC2 HC3
      clear HV HL1 HL2 hz
      go_wp2_with fail
      refine HC1.out.mono ?_
      rintro e9 w1 ⟨rfl, hk1⟩
      have HK1 := Lib.hid hk1
      clear hk1 HC1
      go_wp2_with fail
      refine (HC2.out w1).mono ?_
      rintro e9 w2 ⟨rfl, hk2⟩
      have HK2 := Lib.hid (HK1.out.trans' hk2)
      clear hk2 HC2
      go_wp2_with fail
      refine (HC3.out w2).mono ?_
      rintro e9 w3 ⟨rfl, hk3⟩
      have HK3 := Lib.hid (HK2.out.trans' hk3)
      clear hk3 HC3
      cases is
      · have HPN : Hid (P = none) := HNO.out (by rw [HA.out, if_pos rfl])
        go_wp2_with fail
        refine bodyPost_ret (results_tmp2 rfl _ _ _) rfl ?_
        rw [HPN.out]
        exact RreQ.no (HS.out.keep.trans' HK3.out)
      cases it
      · have HPN : Hid (P = none) := HNO.out (by rw [HA.out, if_neg (by simp), if_pos rfl])
        go_wp2_with fail
        refine bodyPost_ret (results_tmp2 rfl _ _ _) rfl ?_
        rw [HPN.out]
        exact RreQ.no (HS.out.keep.trans' HK3.out)
      by_cases hN0 : N = 0
      · have HPN : Hid (P = none) := HNO.out (by rw [HA.out, if_neg (by simp), if_neg (by simp), if_pos hN0])
        subst hN0
        go_wp2_with fail
        refine bodyPost_ret (results_tmp2 rfl _ _ _) rfl ?_
        rw [HPN.out]
        exact RreQ.no (HS.out.keep.trans' HK3.out)
      have hN0i : ¬ (N : Int) = 0 := by omega
      have hN0b : ((N : Int) == 0) = false := by simpa using hN0
      have HA2 : Hid (rattD T = match rvalsD N [] left with | none => none | some p => some ((nm, p.1), p.2)) := by
        have h9 := HA.out
        rw [if_neg (by simp), if_neg (by simp), if_neg hN0] at h9
        exact h9
      clear HA
      have HB0 := Lib.hid (heap_new8 w3 (.cells #[.string ⟨nm.toArray⟩, .slice none 0 0] 59))
      have HKA : Hid (Keeps [] w3 (w3.alloc (.cells #[.string ⟨nm.toArray⟩, .slice none 0 0] 59))) := (Keeps.refl [] w3).alloc _
      go_wp2_with fail
      have HI0 : Hid (ValI w3 (w3.alloc (.cells #[.string ⟨nm.toArray⟩, .slice none 0 0] 59)) w3.heap.size nm none 0 0 []) := ⟨HB0.out, World.ownsRow_nil _ _ _ _, rfl, by simp, HKA.out, Nat.le_refl _⟩
      have hwb : wr.heap.size ≤ w3.heap.size := HK3.out.size
      generalize w3.alloc (.cells #[.string ⟨nm.toArray⟩, .slice none 0 0] 59) = W1 at HI0 ⊢
      obtain ⟨B, hB⟩ : ∃ B, w3.heap.size = B := ⟨_, rfl⟩
      rw [hB] at HI0 hwb ⊢
      clear HB0 HKA hB
      obtain ⟨U, hU⟩ : ∃ U : World, U = wr := ⟨_, rfl⟩
      subst hU
      go_loopw [9, 13] (fun l i wq => ∃ (A2 : Option Addr) (m c2 : Nat) (xs : List Txt) (T2 : Txt), l = .string ⟨T2.toArray⟩ ∧ i = .int .i64 (m : Int) ∧ m ≤ N ∧ T2.length ≤ 90000 ∧ Hid (ValI w3 wq B nm A2 m c2 xs) ∧ Hid (rvalsD (N - m) xs T2 = rvalsD N [] left)) (fun _ i _ => N - (intOf i).toNat)
      case atStart => exact ⟨none, 0, 0, [], left, rfl, rfl, Nat.zero_le _, HLL.out.1, HI0.out, rfl⟩
      case round =>
        obtain ⟨A2, m, c2, xs, T2, rfl, rfl, hm, hT2, HI, HW⟩ := hrel
        obtain ⟨⟨a0, a1⟩, af0, af1⟩ := HI.out.cells
        by_cases hmn : m < N
        · have hmi : (m : Int) < (N : Int) := by omega
          have hm0 : (0 : Int) ≤ (m : Int) := by omega
          have hm9 : m ≤ 100 := by omega
          obtain ⟨g, hg⟩ : ∃ g, N - m = g + 1 := ⟨N - m - 1, by omega⟩
          have hgm : g = N - (m + 1) := by omega
          have HW2 : Hid ((match rvalD T2 with | none => none | some p => rvalsD g (xs ++ [p.1]) p.2) = rvalsD N [] left) := by
            have h9 := HW.out
            rw [hg] at h9
            exact h9
          have HNV : Hid (rvalD T2 = none → P = none) := fun h => by
            have h9 := HW2.out
            rw [h] at h9
            refine HNO.out ?_
            rw [HA2.out, ← h9]
          have HAV : Hid (rvalD T2 = if (cutD 32 T2).2.2 = false then none else if numD 2048 (cutD 32 T2).1 = 0 then none else
            if (cutD 32 T2).2.1[numD 2048 (cutD 32 T2).1]? = some 10 then some ((cutD 32 T2).2.1.take (numD 2048 (cutD 32 T2).1), (cutD 32 T2).2.1.drop (numD 2048 (cutD 32 T2).1 + 1)) else none) := rfl
          have HD1 := Lib.hid (rcut7_is T2 32 wr (by omega))
          have HL1 := Lib.hid (cutD_len 32 T2)
          rw [show (((32 : UInt8).toNat : Nat) : Int) = 32 from rfl] at HD1
          generalize cutD 32 T2 = q1 at HAV HD1 HL1
          obtain ⟨long, more, iv⟩ := q1
          dsimp only at HAV HD1 HL1
          have HD2 := Lib.hid (fun X => rnumd_is long 2048 X (by have := HL1.out.1; omega) (by decide))
          have hk48 := numD_le 2048 long
          rw [show ((2048 : Nat) : Int) = 2048 from rfl] at HD2
          generalize numD 2048 long = k at HAV HD2 hk48
          obtain ⟨y, hy⟩ : ∃ y, more.length = y := ⟨_, rfl⟩
          have hls : (⟨more.toArray⟩ : ByteArray).size = y := hy
          have HY := Lib.hid hy
          have hy9 : y ≤ 90000 := by have := HL1.out.2.1; omega
          unfold tv at HD1 HD2
          clear HW HL1 hy
          go_wp2_with fail
          refine HD1.out.mono ?_
          rintro e9 w4 ⟨rfl, hk4⟩
          have HK4 := Lib.hid hk4
          clear hk4 HD1
          go_wp2_with fail
          refine (HD2.out w4).mono ?_
          rintro e9 w5 ⟨rfl, hk5⟩
          have HK5 := Lib.hid (HK4.out.trans' hk5)
          clear hk5 HD2 a0 a1 af0 af1
          cases iv
          · have HPN : Hid (P = none) := HNV.out (by rw [HAV.out, if_pos rfl])
            go_wp2_with fail
            refine bodyPost_ret (results_tmp2 rfl _ _ _) rfl ?_
            rw [HPN.out]
            exact RreQ.no (HS.out.keep.trans' (HK3.out.trans' (HI.out.keep.trans' HK5.out)))
          by_cases hk0 : k = 0
          · have HPN : Hid (P = none) := HNV.out (by rw [HAV.out, if_neg (by simp), if_pos hk0])
            subst hk0
            go_wp2_with fail
            refine bodyPost_ret (results_tmp2 rfl _ _ _) rfl ?_
            rw [HPN.out]
            exact RreQ.no (HS.out.keep.trans' (HK3.out.trans' (HI.out.keep.trans' HK5.out)))
          have hk0i : ¬ (k : Int) = 0 := by omega
          have hk0b : ((k : Int) == 0) = false := by simpa using hk0
          by_cases hyk : y ≤ k
          · have HPN : Hid (P = none) := HNV.out (by rw [HAV.out, if_neg (by simp), if_neg hk0, if_neg (by rw [List.getElem?_eq_none (by rw [HY.out]; exact hyk)]; simp)])
            have hyki : (y : Int) ≤ (k : Int) := by omega
            go_wp2_with fail
            refine bodyPost_ret (results_tmp2 rfl _ _ _) rfl ?_
            rw [HPN.out]
            exact RreQ.no (HS.out.keep.trans' (HK3.out.trans' (HI.out.keep.trans' HK5.out)))
          have hyki : ¬ (y : Int) ≤ (k : Int) := by omega
          obtain ⟨u, hu⟩ : ∃ u, more[k]? = some u := ⟨_, List.getElem?_eq_getElem (by have := HY.out; omega)⟩
          have hix := str_at more k u hu
          have HU := Lib.hid hu
          clear hu
          by_cases hub : u = 10
          · subst hub
            have HVY : Hid (rvalD T2 = some (more.take k, more.drop (k + 1))) := by show _ = _; rw [HAV.out, if_neg (by simp), if_neg hk0, if_pos HU.out]
            have HW3 : Hid (rvalsD g (xs ++ [more.take k]) (more.drop (k + 1)) = rvalsD N [] left) := by
              have h9 := HW2.out
              rw [HVY.out] at h9
              exact h9
            have hto := str_to7 more k (by have := HY.out; omega)
            have hfr := fun W => str_from7 more (k + 1) (by have := HY.out; omega) W
            rw [show (((k + 1 : Nat) : Int)) = (k : Int) + 1 by omega] at hfr
            have hdl : (more.drop (k + 1)).length ≤ 90000 := by rw [List.length_drop, HY.out]; omega
            have hvl : (more.take k).length ≤ 1000000000 := by rw [List.length_take, HY.out]; omega
            generalize more.take k = v at HW3 hto hvl
            generalize more.drop (k + 1) = T3 at HW3 hfr hdl
            have HI6 := Lib.hid (HI.out.on (HK5.out.drew))
            have HI7 := Lib.hid (HI6.out.on ((Keeps.refl [] w5.drew).alloc (.cells #[tv v] 9)))
            have hBsz : B + 1 ≤ (w5.drew.alloc (.cells #[tv v] 9)).heap.size := lt_of_heap HI7.out.box
            obtain ⟨⟨b0, b1⟩, bf0, bf1⟩ := HI6.out.cells
            obtain ⟨⟨z0, z1⟩, zf0, zf1⟩ := HI7.out.cells
            obtain ⟨⟨y0, y1⟩, yf0, yf1⟩ := ((HI.out.on HK5.out).on ((Keeps.refl [] w5).alloc (.cells #[tv v] 9))).cells
            unfold tv at z0 z1 zf0 zf1 y0 y1 yf0 yf1
            have hHU : (((10 : UInt8).toNat : Nat) : Int) = 10 := rfl
            rw [hHU] at hix
            clear HU HNV HAV HVY HW2 HI hHU
            go_wp2_with fail
            refine wp_region_held_drew (S := (fun _ => True)) (by kernel_rfl) trivial ?_
            intro HS2
            refine wpAnyH_take (i := 0) (v := .pointer (some ⟨B, 1, none⟩)) rfl (by kernel_rfl) (by kernel_rfl) (by kernel_rfl) (fun _ _ _ h => h) (Or.inl ⟨by kernel_rfl, ?_⟩) trivial ?_
            · intro w5 hw5
              obtain hw9 := hw5
              go_simp
            simp only [List.getElem_toArray, List.getElem_cons_succ, List.getElem_cons_zero, Act.put, List.setIfInBounds_toArray, List.set_cons_zero, List.set_cons_succ]
            refine wpAnyH_take (i := 2) (v := .string ⟨more.toArray⟩) rfl (by kernel_rfl) (by kernel_rfl) (by kernel_rfl) (fun _ _ _ h => h) (Or.inl ⟨by kernel_rfl, ?_⟩) trivial ?_
            · intro w5 hw5
              obtain hw9 := hw5
              go_simp
            simp only [List.getElem_toArray, List.getElem_cons_succ, List.getElem_cons_zero, Act.put, List.setIfInBounds_toArray, List.set_cons_zero, List.set_cons_succ]
            refine wpAnyH_take (i := 3) (v := .int .i64 (k : Int)) rfl (by kernel_rfl) (by kernel_rfl) (by kernel_rfl) (fun _ _ _ h => h) (Or.inl ⟨by kernel_rfl, ?_⟩) trivial ?_
            · intro w5 hw5
              obtain hw9 := hw5
              go_simp
            simp only [List.getElem_toArray, List.getElem_cons_succ, List.getElem_cons_zero, Act.put, List.setIfInBounds_toArray, List.set_cons_zero, List.set_cons_succ]
            refine wpAnyH_take (i := 4) (v := .string ⟨v.toArray⟩) rfl (by kernel_rfl) (by kernel_rfl) (by kernel_rfl) (fun _ _ _ h => h) (Or.inl ⟨by kernel_rfl, ?_⟩) trivial ?_
            · intro w5 hw5
              obtain hw9 := hw5
              go_simp
            simp only [List.getElem_toArray, List.getElem_cons_succ, List.getElem_cons_zero, Act.put, List.setIfInBounds_toArray, List.set_cons_zero, List.set_cons_succ]
            refine wpAnyH_ready (rs := [1, 5]) (by kernel_rfl) (by simp) ?_
            refine AllReadyH.cons rfl (fun K hK => ?_) (AllReadyH.cons rfl (fun K hK => ?_) AllReadyH.nil)
            · go_simp
              refine hK.out _ _ trivial (fun HS2 => ?_)
              clear hK K
              try simp only [List.getElem_toArray, List.getElem_cons_succ, List.getElem_cons_zero, Act.put, List.setIfInBounds_toArray, List.set_cons_zero, List.set_cons_succ]
              refine wpAnyH_ready (rs := [5]) (by kernel_rfl) (by simp) ?_
              refine AllReadyH.cons rfl (fun K hK => ?_) AllReadyH.nil
              go_simp
              refine hK.out _ _ trivial (fun HS2 => ?_)
              clear hK K
              try simp only [List.getElem_toArray, List.getElem_cons_succ, List.getElem_cons_zero, Act.put, List.setIfInBounds_toArray, List.set_cons_zero, List.set_cons_succ]
              refine wpAnyH_ready (rs := [6]) (by kernel_rfl) (by simp) ?_
              refine AllReadyH.cons rfl (fun K hK => ?_) AllReadyH.nil
              rw [if_pos (by kernel_rfl)]
              refine wp_append_opt (.tmp 78) (.tmp 82) 40 rfl (B + 1) 9 ju _ 1 16 Tryz.underlying40 hju hyu0 hyu1 hyu2 rfl (by decide) (.slice A2 m c2) m (xs.map tv) rfl HI7.out.row (some ⟨w5.drew.heap.size, 0, none⟩) 1 1 [tv v] rfl rfl (src_one7 w5.drew v _) (by intro u hu; simp at hu; subst hu; rfl) (by unfold maxLen; omega) (by omega) hBsz ?_
              intro v6 w6 ho6 hg6 hs6
              obtain ⟨A6, c6, hv6⟩ := own_slice ho6
              subst hv6
              have HX := Lib.hid (HI7.out.snoc hg6 ho6 hvl)
              have HB6 : Hid (w6.heap[B]? = some (.cells #[tv nm, .slice A2 m c2] 59 (0, 0))) := blk_keep HI7.out.box (Keeps.of_grown (bs := (Value.slice A2 m c2).ownBlock.toList) hg6 (fun x hx => .inl (by rw [hx]; simp))) (fun hm => absurd (HI7.out.row.lt B (by simpa using hm)).1 (by omega))
              clear ho6 hg6 hs6
              obtain ⟨⟨x0, x1⟩, xf0, xf1⟩ := blk2 HB6.out
              refine hK.out _ _ trivial (fun HS2 => ?_)
              clear hK K
              simp only [List.getElem_toArray, List.getElem_cons_succ, List.getElem_cons_zero, Act.put, List.setIfInBounds_toArray, List.set_cons_zero, List.set_cons_succ]
              refine wpAnyH_take (i := 7) (v := .pointer (some ⟨B, 1, none⟩)) rfl (by kernel_rfl) (by kernel_rfl) (by kernel_rfl) (fun _ _ _ h => h) (Or.inl ⟨by kernel_rfl, ?_⟩) trivial ?_
              · intro w5 hw5
                obtain hw9 := hw5
                go_simp
              simp only [List.getElem_toArray, List.getElem_cons_succ, List.getElem_cons_zero, Act.put, List.setIfInBounds_toArray, List.set_cons_zero, List.set_cons_succ]
              refine wpAnyH_ready (rs := [8]) (by kernel_rfl) (by simp) ?_
              refine AllReadyH.cons rfl (fun K hK => ?_) AllReadyH.nil
              go_simp
              refine hK.out _ _ trivial (fun HS2 => ?_)
              clear hK K
              refine wpAnyH_done (by kernel_rfl) ?_ _
              clear x0 x1 xf0 xf1
              go_wp2_with fail
              go_roundw
              case rel => exact ⟨A6, m + 1, c6, xs ++ [v], T3, rfl, by go_num, by omega, hdl, HX.out, by rw [← hgm]; exact HW3.out⟩
              case measure => simp [intOf]; omega
            · go_simp
              refine hK.out _ _ trivial (fun HS2 => ?_)
              clear hK K
              try simp only [List.getElem_toArray, List.getElem_cons_succ, List.getElem_cons_zero, Act.put, List.setIfInBounds_toArray, List.set_cons_zero, List.set_cons_succ]
              refine wpAnyH_ready (rs := [1]) (by kernel_rfl) (by simp) ?_
              refine AllReadyH.cons rfl (fun K hK => ?_) AllReadyH.nil
              go_simp
              refine hK.out _ _ trivial (fun HS2 => ?_)
              clear hK K
              try simp only [List.getElem_toArray, List.getElem_cons_succ, List.getElem_cons_zero, Act.put, List.setIfInBounds_toArray, List.set_cons_zero, List.set_cons_succ]
              refine wpAnyH_ready (rs := [6]) (by kernel_rfl) (by simp) ?_
              refine AllReadyH.cons rfl (fun K hK => ?_) AllReadyH.nil
              rw [if_pos (by kernel_rfl)]
              refine wp_append_opt (.tmp 78) (.tmp 82) 40 rfl (B + 1) 9 ju _ 1 16 Tryz.underlying40 hju hyu0 hyu1 hyu2 rfl (by decide) (.slice A2 m c2) m (xs.map tv) rfl HI7.out.row (some ⟨w5.drew.heap.size, 0, none⟩) 1 1 [tv v] rfl rfl (src_one7 w5.drew v _) (by intro u hu; simp at hu; subst hu; rfl) (by unfold maxLen; omega) (by omega) hBsz ?_
              intro v6 w6 ho6 hg6 hs6
              obtain ⟨A6, c6, hv6⟩ := own_slice ho6
              subst hv6
              have HX := Lib.hid (HI7.out.snoc hg6 ho6 hvl)
              have HB6 : Hid (w6.heap[B]? = some (.cells #[tv nm, .slice A2 m c2] 59 (0, 0))) := blk_keep HI7.out.box (Keeps.of_grown (bs := (Value.slice A2 m c2).ownBlock.toList) hg6 (fun x hx => .inl (by rw [hx]; simp))) (fun hm => absurd (HI7.out.row.lt B (by simpa using hm)).1 (by omega))
              clear ho6 hg6 hs6
              obtain ⟨⟨x0, x1⟩, xf0, xf1⟩ := blk2 HB6.out
              refine hK.out _ _ trivial (fun HS2 => ?_)
              clear hK K
              simp only [List.getElem_toArray, List.getElem_cons_succ, List.getElem_cons_zero, Act.put, List.setIfInBounds_toArray, List.set_cons_zero, List.set_cons_succ]
              refine wpAnyH_take (i := 7) (v := .pointer (some ⟨B, 1, none⟩)) rfl (by kernel_rfl) (by kernel_rfl) (by kernel_rfl) (fun _ _ _ h => h) (Or.inl ⟨by kernel_rfl, ?_⟩) trivial ?_
              · intro w5 hw5
                obtain hw9 := hw5
                go_simp
              simp only [List.getElem_toArray, List.getElem_cons_succ, List.getElem_cons_zero, Act.put, List.setIfInBounds_toArray, List.set_cons_zero, List.set_cons_succ]
              refine wpAnyH_ready (rs := [8]) (by kernel_rfl) (by simp) ?_
              refine AllReadyH.cons rfl (fun K hK => ?_) AllReadyH.nil
              go_simp
              refine hK.out _ _ trivial (fun HS2 => ?_)
              clear hK K
              refine wpAnyH_done (by kernel_rfl) ?_ _
              clear x0 x1 xf0 xf1
              go_wp2_with fail
              go_roundw
              case rel => exact ⟨A6, m + 1, c6, xs ++ [v], T3, rfl, by go_num, by omega, hdl, HX.out, by rw [← hgm]; exact HW3.out⟩
              case measure => simp [intOf]; omega
          · have hub1 : ¬ u.toNat = 10 := fun e => hub (UInt8.toNat_inj.1 e)
            have hub2 : ¬ (u.toNat : Int) = 10 := by omega
            have hub3 : ((u.toNat : Int) == 10) = false := by rw [beq_eq_false_iff_ne]; exact hub2
            have HPN : Hid (P = none) := HNV.out (by rw [HAV.out, if_neg (by simp), if_neg hk0, if_neg (by rw [HU.out]; simpa using hub)])
            go_wp2_with fail
            refine bodyPost_ret (results_tmp2 rfl _ _ _) rfl ?_
            rw [HPN.out]
            exact RreQ.no (HS.out.keep.trans' (HK3.out.trans' (HI.out.keep.trans' HK5.out)))
        · obtain rfl : m = N := by omega
          have h9 := HW.out
          rw [Nat.sub_self] at h9
          have HAT : Hid (rattD T = some ((nm, xs), T2)) := by
            show _ = _
            rw [HA2.out, ← h9]
            rfl
          have HTT : Hid (T2.length < T.length) := by
            have h8 := rvalsD_less _ h9.symm
            have := HLL.out.2.1 (by first | exact trivial | rfl)
            show _ < _
            omega
          have HV3 : Hid (rattsD (s.length + 1) [] s = rattsD f2 (e ++ [(nm, xs)]) T2) := by
            have h8 := HV2.out
            rw [HAT.out] at h8
            exact h8
          have HKU : Hid (Keeps [] U wr) := HK3.out.trans' HI.out.keep
          have HRW : Hid ((wr.alloc (.cells #[tv nm, .slice A2 m c2] 59)).ownsRow w.heap.size 59 2 (.slice A j c) j (atCells L)) := own_keep HS.out.row (HKU.out.alloc _) (by simp)
          have HSZ : Hid (w.heap.size ≤ (wr.alloc (.cells #[tv nm, .slice A2 m c2] 59)).heap.size) := by
            have h1 := HS.out.keep.size
            have h2 := (HKU.out.alloc (.cells #[tv nm, .slice A2 m c2] 59)).size
            show _ ≤ _
            omega
          have HX : Hid (∀ (w5 : World) (A5 : Option Addr) (c5 : Nat), (wr.alloc (.cells #[tv nm, .slice A2 m c2] 59)).grownBy w5 (Value.slice A j c).ownBlock → w5.ownsRow w.heap.size 59 2 (.slice A5 (j + 1) c5) (j + 1) (atCells L ++ [tv nm, .slice A2 m c2]) → EntS w w5 A5 (j + 1) c5 (L ++ [⟨nm, A2, m, c2, xs⟩]) (e ++ [(nm, xs)])) :=
            fun w5 A5 c5 hg ho => ents_snoc7 HS.out HKU.out ((Keeps.refl [] wr).alloc _) (own_base7 HI.out.row (by omega)) HI.out.len HI.out.txt (by have := HLL.out.2.2; omega) hg ho
          clear h9 HW HV2 HNO
          have HFN : Hid (∀ a ∈ L ++ [⟨nm, A2, m, c2, xs⟩], a.n ≤ 100000) := fun a ha => by
            rcases List.mem_append.1 ha with ha | ha
            · exact HFW.out a ha
            · rw [List.mem_singleton.1 ha]
              show m ≤ _
              omega
          go_wp2_with (at_builtin; refine wpList_append_opt rfl (.tmp 89) (.tmp 91) 23 rfl w.heap.size 59 iu _ 2 40 Tryz.underlying23 hiu hzu0 hzu1 hzu2 rfl (by decide) (.slice A j c) j (atCells L) rfl HRW.out (some ⟨wr.heap.size, 0, none⟩) 1 1 [tv nm, .slice A2 m c2] rfl rfl (src_at7 wr ⟨nm, A2, m, c2, xs⟩ _) (by intro u hu; simp at hu; rcases hu with rfl | rfl <;> rfl) (by unfold maxLen; omega) (by omega) HSZ.out ?_; intro v5 w5 ho hg5 hs5; obtain ⟨A5, c5, hv5⟩ := own_slice ho; subst hv5; have HY := Lib.hid (HX.out w5 A5 c5 hg5 ho); clear ho hg5 hs5)
          go_roundw
          case rel => exact ⟨A5, c5, j + 1, f2, _, _, T2, rfl, rfl, by have := HTT.out; omega, HY.out, HFN.out, by have := HTT.out; have := HF.out; show _ < _; omega, HV3.out⟩
          case measure => exact HTT.out
    · have hne : T = [] := by simpa using hz
      subst hne
      have HP2 : Hid ((if entOk e = true then some e else none) = P) := by
        show _ = _
        rw [← HP.out, readD_some (HV.out.trans rattsD_end)]
      have HEI := Lib.hid (EntIn.of_own HS.out.row HS.out.len (fun a ha => (HS.out.rows a ha).fits))
      have HCK := Lib.hid (rright7_is A j c L wr HEI.out ⟨by rw [HS.out.len]; omega, HFW.out⟩)
      rw [HS.out.ents] at HCK
      clear hz HV HP hs1 hs2 hs3
      obtain ⟨q, hq⟩ : ∃ q, entOk e = q := ⟨_, rfl⟩
      rw [hq] at HP2 HCK
      clear hq
      cases q
      · have HPN : Hid (P = none) := HP2.out.symm
        go_wp2_with fail
        refine HCK.out.mono ?_
        rintro e9 w6 ⟨rfl, hk6⟩
        have HK6 := Lib.hid (HS.out.keep.trans' hk6)
        clear hk6
        go_wp2_with fail
        refine bodyPost_ret (results_tmp2 rfl _ _ _) rfl ?_
        rw [HPN.out]
        exact RreQ.no HK6.out
      · have HPY : Hid (P = some e) := HP2.out.symm
        go_wp2_with fail
        refine HCK.out.mono ?_
        rintro e9 w6 ⟨rfl, hk6⟩
        have HK6 := Lib.hid hk6
        clear hk6
        go_wp2_with fail
        refine bodyPost_ret (results_tmp2 rfl _ _ _) rfl ?_
        rw [HPY.out]
        refine ⟨A, j, c, rfl, ⟨L, HS.out.ents, EntIn.grow HK6.out HEI.out, (own_caps HS.out.row).1, (own_caps HS.out.row).2, fun a ha => (HS.out.rows a ha).len⟩, HS.out.keep.trans' HK6.out⟩
end Go.Proofs.YtebocagkpkpghaaGreatDoor
/- entry: what the five listed package-level variables give; a world that meets the condition. -/
namespace Go.Proofs.YtebocagkpkpghaaGreatDoor
open Go.ChangeShapes Go.WideShapes Go.ChangeAt Go.WideMaps Go.WideElems Go.RowKit
set_option linter.unusedVariables false
set_option maxRecDepth 100000

def laid5e : List (String × DataW Unit) := [("math/bits.deBruijn32tab", Rows.laid_math_bits_deBruijn32tab), ("math/bits.deBruijn64tab", Rows.laid_math_bits_deBruijn64tab), ("internal/strconv.uint64pow10", Rows.laid_internal_strconv_uint64pow10), ("strconv.ErrRange", Rows.laid_strconv_ErrRange), ("strconv.ErrSyntax", Rows.laid_strconv_ErrSyntax)]
theorem star7 : "*" ++ "errors.errorString" = "*errors.errorString" := by decide
theorem rowErr7 (u : TypeId) (h : Tryz.prog.typeName? 3 u = some "*errors.errorString") : u = 193 :=
  typeName_ptr_named (nm := "errors.errorString") (by rw [star7]; kernel_rfl) (by kernel_rfl) (by decide) u (by rw [star7]; exact h)
/-- The door's own heap meets the condition. -/
theorem door_met9 (os : Os) (args : Array Value) : laidMetH Tryz.prog laid5e ((World.doorLaid Tryz.prog 400 os).forCall (fun _ _ => 0) ⟨#[], args, []⟩).memory :=
  laidMetH_of_parts3 (fuel := 8) (laidMet_of_run' 8 (by kernel_rfl) (by kernel_rfl)) (by kernel_rfl) (by kernel_rfl)
theorem num_of_laid {W : World} (h : laidMetH Tryz.prog laid5e W) : NumW W := by
  rw [MakeChecks.laidMetH_plain _ _ _ (by kernel_rfl)] at h
  have hp : PowAt W := Lib.tabIs_of_head (t := 164) (e := 137) (n := 20) (g := 0) (by kernel_rfl) (by kernel_rfl) Tryz.underlying164 Tryz.underlying137 (by kernel_rfl) (by kernel_rfl) h.tail.tail
  obtain ⟨a, s, hv, _⟩ := laid_sentinel h.tail.tail.tail (g := 2) (by kernel_rfl) (ti := 85) (by kernel_rfl) Tryz.underlying85 rowErr7 Tryz.underlying193 Tryz.underlying195 rfl rfl Tryz.underlying9 (by kernel_rfl) (by kernel_rfl)
  have h0 := World.var?_cell (g := 2) (by kernel_rfl) hv 0
  obtain ⟨a1, s1, hv1, _⟩ := laid_sentinel h.tail.tail.tail.tail (g := 1) (by kernel_rfl) (ti := 85) (by kernel_rfl) Tryz.underlying85 rowErr7 Tryz.underlying193 Tryz.underlying195 rfl rfl Tryz.underlying9 (by kernel_rfl) (by kernel_rfl)
  have h1 := World.var?_cell (g := 1) (by kernel_rfl) hv1 0
  exact ⟨hp, ⟨.iface 193 (.pointer (some a1)), by simpa using h1, .inr ⟨_, _, rfl⟩⟩, ⟨.iface 193 (.pointer (some a)), by simpa using h0, .inr ⟨_, _, rfl⟩⟩⟩
end Go.Proofs.YtebocagkpkpghaaGreatDoor
