/- Texts of one proof, laid together: N62. -/
import Derived.Test.YtmgkejgmkfeccaaDoorM30
import Derived.Test.YtmgkejgmkfeccaaDoorM08
/- dn: the document's part; walked. -/
namespace Go.Proofs.YtmgkejgmkfeccaaDoor
open Go.RowKit Go.Shelf
set_option linter.unusedVariables false
set_option linter.unusedSimpArgs false
set_option maxRecDepth 100000

theorem results_two2 {fn : Func} {p q r : Tmp} {ty : TypeId} (h : fn.results = #[.cell p ty, .tmp q, .tmp r]) (tmps : Array Value) (w : World) (g : Nat) (cs : Array Value)
    (hp : tmps.getD p undef = .pointer (some ⟨g, 0, none⟩)) (hl : (loadVar ty ⟨g, 0, none⟩).run Tryd.prog w = .ok (.agg cs) w) :
    (results fn tmps).run Tryd.prog w = .ok (.tuple #[.agg cs, tmps.getD q undef, tmps.getD r undef]) w := by
  have hp' : tmps[p]?.getD undef = .pointer (some ⟨g, 0, none⟩) := by simpa using hp
  simp [results, h, hp', asAddr, hl, Sem.run_bind, Result.andThen]
/-- What the document's part answers. -/
def PartQ (T : List UInt8) (k : Nat) (w : World) (e : Ending) (w' : World) : Prop :=
  (∀ p r, partD (T.drop k) = some (p, r) → ∃ n : Nat, e = .returned (.tuple #[.agg #[tv p.1, tv p.2], .int .i64 (n : Int), .bool true]) ∧ k < n ∧ n ≤ T.length ∧ T.drop n = r ∧ p.1.length ≤ 1000000000 ∧ p.2.length ≤ 1000000000) ∧
  (partD (T.drop k) = none → ∃ (a b : List UInt8) (n : Nat), e = .returned (.tuple #[.agg #[tv a, tv b], .int .i64 (n : Int), .bool false])) ∧ Keeps [] w w'
/-- How far the first = is looked for. -/
def EqI (T : List UInt8) (k j : Nat) : Prop := k ≤ j ∧ j ≤ T.length ∧ eqD (T.drop k) = ((T.drop k).take (j - k) ++ (eqD (T.drop j)).1, (eqD (T.drop j)).2)
theorem EqI.start (T : List UInt8) (k : Nat) (h : k ≤ T.length) : EqI T k k := ⟨Nat.le_refl _, h, by simp⟩
theorem EqI.next {T : List UInt8} {k j : Nat} {u : UInt8} (h : EqI T k j) (hu : T[j]? = some u) (h1 : u ≠ 61) : EqI T k (j + 1) := by
  obtain ⟨h3, h4, h5⟩ := h
  have hk := (List.getElem?_eq_some_iff.1 hu).1
  refine ⟨by omega, by omega, ?_⟩
  rw [h5, drop_at hu, eqD_more h1, ← take_more h3 hu]
  simp
theorem EqI.found {T : List UInt8} {k j : Nat} (h : EqI T k j) (hu : T[j]? = some 61) : eqD (T.drop k) = ((T.drop k).take (j - k), some (T.drop (j + 1))) := by
  rw [h.2.2, drop_at hu, eqD_at]
  simp
theorem EqI.none {T : List UInt8} {k j : Nat} (h : EqI T k j) (hj : T.length ≤ j) : (eqD (T.drop k)).2 = none := by
  have h9 := h.2.2
  rw [List.drop_of_length_le hj] at h9
  rw [h9]
  rfl
/-- How far a Value is read. -/
def ValE (T : List UInt8) (f j : Nat) (acc : List UInt8) (bl : Bool) : Prop := f ≤ j ∧ j ≤ T.length ∧ acc.length ≤ j ∧ valD (T.drop f) [] false = valD (T.drop j) acc bl
theorem ValE.start (T : List UInt8) (f : Nat) (h : f ≤ T.length) : ValE T f f [] false := ⟨Nat.le_refl _, h, Nat.zero_le _, rfl⟩
theorem ValE.fin {T acc : List UInt8} {f j : Nat} {bl : Bool} (h : ValE T f j acc bl) (hj : T.length ≤ j ∨ T[j]? = some 44) : valD (T.drop f) [] false = some (acc, bl, T.drop j) := by
  rw [h.2.2.2]
  rcases hj with hj | hj
  · rw [List.drop_of_length_le hj, valD_nil]
  · rw [drop_at hj, valD_end]
theorem ValE.bad {T acc : List UInt8} {f j : Nat} {bl : Bool} {u : UInt8} (h : ValE T f j acc bl) (hu : T[j]? = some u) (h44 : u ≠ 44) (ho : oneD (T.drop j) = none) : valD (T.drop f) [] false = none := by
  rw [h.2.2.2]
  rw [drop_at hu] at ho ⊢
  exact valD_none h44 ho
theorem ValE.no {T acc : List UInt8} {f j : Nat} {bl t : Bool} {u x : UInt8} {r : List UInt8} (h : ValE T f j acc bl) (hu : T[j]? = some u) (h44 : u ≠ 44) (ho : oneD (T.drop j) = some (x, t, r)) (h3 : (acc.isEmpty && (!t && (x == 32 || x == 35))) = true) : valD (T.drop f) [] false = none := by
  rw [h.2.2.2]
  rw [drop_at hu] at ho ⊢
  exact valD_no h44 ho h3
theorem ValE.more {T acc : List UInt8} {f j n : Nat} {bl t : Bool} {u x : UInt8} (h : ValE T f j acc bl) (hu : T[j]? = some u) (h44 : u ≠ 44) (ho : oneD (T.drop j) = some (x, t, T.drop (j + n))) (hn : j + n ≤ T.length) (h0 : 0 < n) (h3 : (acc.isEmpty && (!t && (x == 32 || x == 35))) = false) : ValE T f (j + n) (acc ++ [x]) (x == 32 && !t) := by
  obtain ⟨h4, h5, h6, h7⟩ := h
  refine ⟨by omega, hn, by rw [List.length_append, List.length_singleton]; omega, ?_⟩
  rw [h7]
  rw [drop_at hu] at ho ⊢
  exact valD_more h44 ho h3
/-- What a round of the Value's loop finds. -/
structure ValT (T : List UInt8) (f : Nat) (W1 wr : World) (A : Option Addr) (an cc j : Nat) (acc : List UInt8) (bl : Bool) : Prop where
  inv : ValE T f j acc bl
  len : acc.length = an
  row : wr.ownsRow W1.heap.size 5 1 (.slice A an cc) an (acc.map bv)
  keep : Keeps [] W1 wr
theorem ValT.more {T acc : List UInt8} {f an cc j q : Nat} {bl b2 : Bool} {x : UInt8} {W1 wr w3 : World} {A : Option Addr} {v : Value} (h : ValT T f W1 wr A an cc j acc bl) (hi : ValE T f q (acc ++ [x]) b2) (hk : Keeps [] wr w3)
    {w4 : World} (ho : w4.ownsRow W1.heap.size 5 1 v (an + 1) (acc.map bv ++ [bv x])) (hg : (w3.alloc (.cells #[bv x] 5)).grownBy w4 (Value.slice A an cc).ownBlock) : ∃ VB vd, v = .slice VB (an + 1) vd ∧ ValT T f W1 w4 VB (an + 1) vd q (acc ++ [x]) b2 := by
  obtain ⟨VB, vd, hv⟩ := own_slice ho
  subst hv
  have hrow2 : (w3.alloc (.cells #[bv x] 5)).ownsRow W1.heap.size 5 1 (.slice A an cc) an (acc.map bv) := own_keep h.row (hk.alloc _) (by simp)
  have hk2 : Keeps [] W1 (w3.alloc (.cells #[bv x] 5)) := h.keep.trans' (hk.alloc _)
  exact ⟨VB, vd, rfl, hi, by simp [h.len], by simpa using ho, keeps_own6 hrow2 hk2 hg⟩

theorem u8_beq (x : UInt8) (n : Nat) : ((x.toNat : Int) == ((UInt8.ofNat n).toNat : Int)) = (x == UInt8.ofNat n) := by
  rw [Bool.eq_iff_iff, beq_iff_eq, beq_iff_eq]
  exact ⟨fun h => UInt8.toNat_inj.1 (by omega), fun h => by rw [h]⟩
theorem mea62 {N a b : Nat} (h : N - b < N - a) : N - (intOf (.int .i64 (b : Int))).toNat < N - (intOf (.int .i64 (a : Int))).toNat := by simpa [intOf] using h
theorem blk2 {w : World} {g : Nat} {a b : Value} {t : TypeId} (h : w.heap[g]? = some (.cells #[a, b] t (0, 0))) :
    (w.cell? ⟨g, 0, none⟩ = some a ∧ w.cell? ⟨g, 1, none⟩ = some b) ∧ (w.frozen? ⟨g, 0, none⟩ = false ∧ w.frozen? ⟨g, 1, none⟩ = false) :=
  ⟨two_facts6 h, by unfold World.frozen?; rw [h]; exact ⟨rfl, rfl⟩⟩
theorem set2 {w : World} {g : Nat} {a b v0 v1 : Value} {t : TypeId} (h : w.heap[g]? = some (.cells #[a, b] t (0, 0))) :
    ((w.setCell ⟨g, 0, none⟩ v0).setCell ⟨g, 1, none⟩ v1).heap[g]? = some (.cells #[v0, v1] t (0, 0)) :=
  heap_setCell_same _ g 1 _ t v1 (heap_setCell_same w g 0 _ t v0 h)
theorem load2 (w : World) (g : Nat) (a b : Value) (h : w.heap[g]? = some (.cells #[a, b] 53 (0, 0))) : (loadVar 53 ⟨g, 0, none⟩).run Tryd.prog w = .ok (.agg #[a, b]) w :=
  run_loadVar_row (P := Tryd.prog) w g 53 53 #[a, b] (0, 0) _ h Tryd.underlying53 rfl (by kernel_rfl)

set_option maxHeartbeats 16000000 in
theorem rpart_is (T : List UInt8) (k : Nat) (w : World) (hk : k ≤ T.length) (hl : T.length ≤ 1000000000) :
    Calls Tryd.prog 21 #[.string ⟨T.toArray⟩, .int .i64 (k : Int)] w (PartQ T k w) := by
  obtain ⟨iu, hiu, hzu0, hzu1, hzu2⟩ := info_parts u8_info
  have HLL := Lib.hid hl
  have HKK := Lib.hid hk
  have HST := Lib.hid (EqI.start T k hk)
  obtain ⟨N, hN⟩ : ∃ N, T.length = N := ⟨_, rfl⟩
  have HN := Lib.hid hN
  have hTL : (⟨T.toArray⟩ : ByteArray).size = N := hN
  rw [hN] at hl hk
  clear hN
  go_enter Tryd.func21, Tryd.ntmps21
  go_wp2_with fail
  have HKV : Hid (Keeps [] w (w.alloc (.cells #[.string ⟨#[]⟩, .string ⟨#[]⟩] 53))) := (Keeps.refl [] w).alloc _
  have HBV : Hid ((w.alloc (.cells #[.string ⟨#[]⟩, .string ⟨#[]⟩] 53)).heap[w.heap.size]? = some (.cells #[.string ⟨#[]⟩, .string ⟨#[]⟩] 53 (0, 0))) := heap_new8 w _
  generalize (w.alloc (.cells #[.string ⟨#[]⟩, .string ⟨#[]⟩] 53)) = V at *
  obtain ⟨g, hg⟩ : ∃ g, w.heap.size = g := ⟨_, rfl⟩
  rw [hg] at HBV
  have HG : Hid (w.heap.size ≤ g ∧ g < V.heap.size) := ⟨by omega, lt_of_heap HBV.out⟩
  simp only [hg]
  clear hg
  have HBAD : Hid (∀ X, Keeps [] V X → partD (T.drop k) = none → PartQ T k w (.returned (.tuple #[.agg #[.string ⟨#[]⟩, .string ⟨#[]⟩], .int .i64 0, .bool false])) ((X.setCell ⟨g, 0, none⟩ (.string ⟨#[]⟩)).setCell ⟨g, 1, none⟩ (.string ⟨#[]⟩))) := fun X hX h =>
    ⟨fun p r h2 => (by rw [h] at h2; cases h2), fun _ => ⟨[], [], 0, rfl⟩, ((HKV.out.trans' hX).setCell (.inr HG.out.1) _).setCell (.inr HG.out.1) _⟩
  have HBX : Hid (∀ X, Keeps [] V X → X.heap[g]? = some (.cells #[.string ⟨#[]⟩, .string ⟨#[]⟩] 53 (0, 0))) := fun X hX => blk_keep HBV.out hX (by simp)
  go_loopw [1] (fun i wr => ∃ j : Nat, i = .int .i64 (j : Int) ∧ j ≤ N ∧ Hid (EqI T k j) ∧ wr = V) (fun i _ => N - (intOf i).toNat)
  case atStart => exact ⟨k, rfl, hk, HST.out, rfl⟩
  case round =>
    obtain ⟨j, rfl, hj, HE, rfl⟩ := hrel
    by_cases hlt : j < N
    · obtain ⟨u, hu⟩ : ∃ u, T[j]? = some u := ⟨_, List.getElem?_eq_getElem (by rw [HN.out]; exact hlt)⟩
      have hix := fun W => str_at T j u hu W
      have hji : (j : Int) < (N : Int) := by omega
      by_cases h61 : u = 61
      · subst h61
        rw [show (((61 : UInt8).toNat : Nat) : Int) = 61 from rfl] at hix
        have HF := Lib.hid (HE.out.found hu)
        have hkj := HE.out.1
        have hge : ¬ (N : Int) ≤ (j : Int) := by omega
        have hgeb : decide ((N : Int) ≤ (j : Int)) = false := by simp; omega
        have hsl := fun W => str_cut T k j hkj (by rw [HN.out]; omega) W
        have hkdl : ((T.drop k).take (j - k)).length ≤ 1000000000 := by rw [List.length_take, List.length_drop]; omega
        obtain ⟨kd, hkd⟩ : ∃ kd, (T.drop k).take (j - k) = kd := ⟨_, rfl⟩
        rw [hkd] at hsl hkdl HF
        have HNM := Lib.hid (fun X => rname_is kd X (by omega))
        clear hkd hu
        cases hnm : nameT kd with
        | false =>
          rw [hnm] at HNM
          have HPD : Hid (partD (T.drop k) = none) := partD_type (by rw [HF.out]; exact hnm)
          obtain ⟨⟨c0, c1⟩, ⟨f0, f1⟩⟩ := blk2 HBV.out
          have HR := Lib.hid (HBAD.out _ (Keeps.refl _ _) HPD.out)
          have HR2 := Lib.hid (load2 _ g _ _ (set2 (v0 := .string ⟨#[]⟩) (v1 := .string ⟨#[]⟩) HBV.out))
          clear hnm hkj
          go_wp2_with fail
          refine (HNM.out _).mono ?_
          rintro e w1 ⟨rfl, rfl⟩
          go_wp2_with fail
          refine bodyPost_ret (results_two2 rfl _ _ g _ rfl HR2.out) rfl ?_
          exact HR.out
        | true =>
          rw [hnm] at HNM
          have HSM := Lib.hid (fun X => rsmall_is kd X (by omega))
          have hskl : (smallL kd).length ≤ 1000000000 := by rw [smallL_len]; exact hkdl
          obtain ⟨sk, hsk⟩ : ∃ sk, smallL kd = sk := ⟨_, rfl⟩
          have HPV : Hid (valD (T.drop (j + 1)) [] false = none → partD (T.drop k) = none) := fun h => partD_val (by rw [HF.out]) h
          have HPI : Hid (∀ v bl r2, valD (T.drop (j + 1)) [] false = some (v, bl, r2) → partD (T.drop k) = if (!bl && (decide (1 ≤ v.length) && decide (v.length ≤ 200))) = true then some ((sk, v), r2) else none) := fun v bl r2 h => by
            have h9 := partD_is (by rw [HF.out]) (by rw [HF.out]; exact hnm) h
            rw [HF.out] at h9
            dsimp only at h9
            rw [hsk] at h9
            exact h9
          rw [hsk] at HSM hskl
          obtain ⟨z, hz⟩ : ∃ z : Nat, j + 1 = z := ⟨_, rfl⟩
          have hzi : (j : Int) + 1 = (z : Int) := by omega
          have hwz : wrap64 (z : Int) = (z : Int) := by unfold wrap64; omega
          rw [hz] at HPV HPI
          have HVS : Hid (ValE T z z [] false) := ValE.start T z (by rw [HN.out]; omega)
          have HKJ : Hid (k < z) := by show _ < _; omega
          have hzN : z ≤ N := by omega
          obtain ⟨U, hU⟩ : ∃ U : World, U = wr := ⟨_, rfl⟩
          subst hU
          clear hsk hnm hkj hz HE HST
          go_wp2_with fail
          refine (HNM.out _).mono ?_
          rintro e w1 ⟨rfl, rfl⟩
          go_wp2_with fail
          refine (HSM.out _).mono ?_
          rintro e w2 ⟨rfl, hk2⟩
          have HKW1 : Hid (Keeps [] U (w2.alloc (.cells #[.string ⟨sk.toArray⟩, .string ⟨#[]⟩] 53))) := hk2.alloc _
          have HCB0 : Hid ((w2.alloc (.cells #[.string ⟨sk.toArray⟩, .string ⟨#[]⟩] 53)).heap[w2.heap.size]? = some (.cells #[.string ⟨sk.toArray⟩, .string ⟨#[]⟩] 53 (0, 0))) := heap_new8 w2 _
          have hsz2 := hk2.size
          clear hsl hix hk2
          go_wp2_with fail
          generalize (w2.alloc (.cells #[.string ⟨sk.toArray⟩, .string ⟨#[]⟩] 53)) = W1 at *
          obtain ⟨c, hc⟩ : ∃ c, w2.heap.size = c := ⟨_, rfl⟩
          rw [hc] at HCB0 hsz2
          simp only [hc]
          clear hc
          have HCB : Hid (∀ X, Keeps [] W1 X → X.heap[c]? = some (.cells #[.string ⟨sk.toArray⟩, .string ⟨#[]⟩] 53 (0, 0))) := fun X hX => blk_keep HCB0.out hX (by simp)
          have HGB : Hid (∀ X, Keeps [] W1 X → X.heap[g]? = some (.cells #[.string ⟨#[]⟩, .string ⟨#[]⟩] 53 (0, 0))) := fun X hX => HBX.out X (HKW1.out.trans' hX)
          have HGC : Hid (g ≠ c) := by have := HG.out.2; show _ ≠ _; omega
          have HCG : Hid (w.heap.size ≤ c) := by have := HG.out; show _ ≤ _; omega
          have HKW : Hid (Keeps [] w W1) := HKV.out.trans' HKW1.out
          have HBAD2 : Hid (∀ X, Keeps [] W1 X → valD (T.drop z) [] false = none → PartQ T k w (.returned (.tuple #[.agg #[.string ⟨#[]⟩, .string ⟨#[]⟩], .int .i64 0, .bool false])) ((X.setCell ⟨g, 0, none⟩ (.string ⟨#[]⟩)).setCell ⟨g, 1, none⟩ (.string ⟨#[]⟩))) := fun X hX h => HBAD.out X (HKW1.out.trans' hX) (HPV.out h)
          clear hsz2 HSM HNM HF
          go_loopw [1, 9, 10] (fun i o b wr => ∃ (q : Nat) (A : Option Addr) (an cc : Nat) (acc : List UInt8) (bl : Bool), i = .int .i64 (q : Int) ∧ o = .slice A an cc ∧ b = .bool bl ∧ Hid (ValT T z W1 wr A an cc q acc bl)) (fun i _ _ _ => N - (intOf i).toNat)
          case atStart => exact ⟨z, none, 0, 0, [], false, rfl, rfl, rfl, HVS.out, rfl, World.ownsRow_nil _ _ _ _, Keeps.refl _ _⟩
          case round =>
            obtain ⟨q, A, an, cc, acc, bl, rfl, rfl, rfl, HV⟩ := hrel
            have hqN : q ≤ N := by have := HV.out.inv.2.1; have := HN.out; omega
            have hak : an ≤ q := by have := HV.out.inv.2.2.1; have := HV.out.len; omega
            by_cases hlq : q < N
            · have hqi : (q : Int) < (N : Int) := by omega
              obtain ⟨u, hu⟩ : ∃ u, T[q]? = some u := ⟨_, List.getElem?_eq_getElem (by rw [HN.out]; exact hlq)⟩
              have hix := fun W => str_at T q u hu W
              by_cases h44 : u = 44
              · subst h44
                rw [show (((44 : UInt8).toNat : Nat) : Int) = 44 from rfl] at hix
                have HH : Hid (T.length ≤ q ∨ T[q]? = some 44) := .inr hu
                clear hu
                have HFN := Lib.hid (HPI.out acc bl (T.drop q) (HV.out.inv.fin HH.out))
                have hcb := conv_bytes (BytesAt.of_own (by have h9 := HV.out.row; rw [← HV.out.len] at h9; exact h9))
                rw [HV.out.len] at hcb
                have HBC := HCB.out wr HV.out.keep
                obtain ⟨⟨c0, c1⟩, ⟨f0, f1⟩⟩ := blk2 HBC
                have HX1 := Lib.hid (heap_setCell_same wr c 1 _ 53 (.string ⟨acc.toArray⟩) HBC)
                have HKX : Hid (Keeps [c] wr (wr.setCell ⟨c, 1, none⟩ (.string ⟨acc.toArray⟩))) := (Keeps.refl [c] wr).setCell (.inl (by simp)) _
                have HGX : Hid ((wr.setCell ⟨c, 1, none⟩ (.string ⟨acc.toArray⟩)).heap[g]? = some (.cells #[.string ⟨#[]⟩, .string ⟨#[]⟩] 53 (0, 0))) := blk_keep (HGB.out wr HV.out.keep) HKX.out (by simp; exact HGC.out)
                obtain ⟨⟨d0, d1⟩, _⟩ := blk2 HX1.out
                obtain ⟨⟨e0, e1⟩, ⟨i0, i1⟩⟩ := blk2 HGX.out
                have HKF : Hid (Keeps [] w (((wr.setCell ⟨c, 1, none⟩ (.string ⟨acc.toArray⟩)).setCell ⟨g, 0, none⟩ (.string ⟨sk.toArray⟩)).setCell ⟨g, 1, none⟩ (.string ⟨acc.toArray⟩))) :=
                  ((((HKW.out.trans' HV.out.keep)).setCell (.inr HCG.out) _).setCell (.inr HG.out.1) _).setCell (.inr HG.out.1) _
                have HR2 := Lib.hid (load2 _ g _ _ (set2 (v0 := .string ⟨sk.toArray⟩) (v1 := .string ⟨acc.toArray⟩) HGX.out))
                have hal := HV.out.len
                have HKQ : Hid (k < q ∧ q ≤ T.length) := ⟨by have h8 := HV.out.inv.1; have h9 := HKJ.out; omega, HV.out.inv.2.1⟩
                have HSK := Lib.hid hskl
                have HAL : Hid (acc.length ≤ 1000000000) := by show _ ≤ _; have h8 := HV.out.inv.2.2.1; have h9 := HKQ.out.2; have h7 := HLL.out; omega
                rw [hal] at HFN
                have HSAY : Hid (∀ r : Bool, (!bl && (decide (1 ≤ an) && decide (an ≤ 200))) = r → PartQ T k w (.returned (.tuple #[.agg #[.string ⟨sk.toArray⟩, .string ⟨acc.toArray⟩], .int .i64 (q : Int), .bool r])) (((wr.setCell ⟨c, 1, none⟩ (.string ⟨acc.toArray⟩)).setCell ⟨g, 0, none⟩ (.string ⟨sk.toArray⟩)).setCell ⟨g, 1, none⟩ (.string ⟨acc.toArray⟩))) := fun r hr => by
                  have h9 := HFN.out
                  rw [hr] at h9
                  cases r with
                  | false =>
                    simp only [Bool.false_eq_true, if_false] at h9
                    exact ⟨fun p r h2 => (by rw [h9] at h2; cases h2), fun _ => ⟨sk, acc, q, rfl⟩, HKF.out⟩
                  | true =>
                    simp only [if_true] at h9
                    refine ⟨fun p r h2 => ?_, fun h2 => (by rw [h9] at h2; cases h2), HKF.out⟩
                    rw [h9] at h2
                    simp only [Option.some.injEq, Prod.mk.injEq] at h2
                    obtain ⟨rfl, rfl⟩ := h2
                    exact ⟨q, rfl, HKQ.out.1, HKQ.out.2, rfl, HSK.out, HAL.out⟩
                clear HFN hal
                cases bl with
                | true =>
                  have HR := Lib.hid (HSAY.out false rfl)
                  go_wp2_with fail
                  refine bodyPost_ret (results_two2 rfl _ _ g _ rfl HR2.out) rfl ?_
                  exact HR.out
                | false =>
                  rcases Nat.eq_zero_or_pos an with h0 | h0
                  · have HR := Lib.hid (HSAY.out false (by rw [h0]; rfl))
                    have g1 : ¬ (1 : Int) ≤ (an : Int) := by omega
                    have g1b : decide ((1 : Int) ≤ (an : Int)) = false := by simp; omega
                    clear h0
                    go_wp2_with fail
                    refine bodyPost_ret (results_two2 rfl _ _ g _ rfl HR2.out) rfl ?_
                    exact HR.out
                  · have g1 : (1 : Int) ≤ (an : Int) := by omega
                    have g1b : decide ((1 : Int) ≤ (an : Int)) = true := by simp; omega
                    rcases Nat.lt_or_ge 200 an with h2 | h2
                    · have HR := Lib.hid (HSAY.out false (by rw [show decide (an ≤ 200) = false by simp; omega]; simp))
                      have g2 : ¬ (an : Int) ≤ 200 := by omega
                      have g2b : decide ((an : Int) ≤ 200) = false := by simp; omega
                      clear h0 h2
                      go_wp2_with fail
                      refine bodyPost_ret (results_two2 rfl _ _ g _ rfl HR2.out) rfl ?_
                      exact HR.out
                    · have HR := Lib.hid (HSAY.out true (by rw [show decide (an ≤ 200) = true by simp; omega, show decide (1 ≤ an) = true by simp; omega]; rfl))
                      have g2 : (an : Int) ≤ 200 := by omega
                      have g2b : decide ((an : Int) ≤ 200) = true := by simp; omega
                      clear h0 h2
                      go_wp2_with fail
                      refine bodyPost_ret (results_two2 rfl _ _ g _ rfl HR2.out) rfl ?_
                      exact HR.out
              · have hub : ((u.toNat : Int) != 44) = true := by
                  have : u.toNat ≠ 44 := fun e => h44 (UInt8.toNat_inj.1 e)
                  simp; omega
                have hun : ¬ (u.toNat : Int) = 44 := by
                  have : u.toNat ≠ 44 := fun e => h44 (UInt8.toNat_inj.1 e)
                  omega
                have HONE := Lib.hid (rone6_is T q wr (by rw [HN.out]; exact hlq) HLL.out)
                have HVB : Hid (oneD (T.drop q) = none → valD (T.drop z) [] false = none) := fun h => HV.out.inv.bad hu h44 h
                have HVN : Hid (∀ x t r, oneD (T.drop q) = some (x, t, r) → (acc.isEmpty && (!t && (x == 32 || x == 35))) = true → valD (T.drop z) [] false = none) := fun x t r h h3 => HV.out.inv.no hu h44 h h3
                have HVM : Hid (∀ x t n, oneD (T.drop q) = some (x, t, T.drop (q + n)) → q + n ≤ T.length → 0 < n → (acc.isEmpty && (!t && (x == 32 || x == 35))) = false → ValE T z (q + n) (acc ++ [x]) (x == 32 && !t)) := fun x t n h hn h0 h3 => HV.out.inv.more hu h44 h hn h0 h3
                clear hu h44
                go_wp2_with fail
                refine HONE.out.mono ?_
                rintro e w3 ⟨hq, hk3⟩
                have HK3 := Lib.hid hk3
                clear hk3 hix
                cases ho : oneD (T.drop q) with
                | none =>
                  obtain rfl := hq.2 ho
                  have HBX3 := HGB.out w3 (HV.out.keep.trans' HK3.out)
                  obtain ⟨⟨c0, c1⟩, ⟨f0, f1⟩⟩ := blk2 HBX3
                  have HR := Lib.hid (HBAD2.out w3 (HV.out.keep.trans' HK3.out) (HVB.out ho))
                  have HR2 := Lib.hid (load2 _ g _ _ (set2 (v0 := .string ⟨#[]⟩) (v1 := .string ⟨#[]⟩) HBX3))
                  clear ho hq HBX3
                  go_wp2_with fail
                  refine bodyPost_ret (results_two2 rfl _ _ g _ rfl HR2.out) rfl ?_
                  exact HR.out
                | some y =>
                  obtain ⟨x, t, r⟩ := y
                  obtain ⟨m, rfl, h0, hm, hr⟩ := hq.1 x t r ho
                  rw [← hr] at ho
                  have HNX := Lib.hid (HVM.out x t m ho hm h0)
                  have HBD := Lib.hid (HVN.out x t _ ho)
                  have HAE : Hid (acc.isEmpty = decide (an = 0)) := by
                    have h9 := HV.out.len
                    show _ = _
                    cases acc with
                    | nil => simp at h9; subst h9; rfl
                    | cons a l => simp at h9; subst h9; simp
                  rw [HAE.out] at HNX HBD
                  obtain ⟨q2, hq2⟩ : ∃ q2, q + m = q2 := ⟨_, rfl⟩
                  rw [hq2] at HNX
                  have hq2i : (q : Int) + (m : Int) = (q2 : Int) := by omega
                  have hq2l : q2 ≤ N := by have := HN.out; omega
                  have hqq : q < q2 := by omega
                  have HB1 : Hid (an + 1 ≤ maxLen) := by show _ ≤ _; unfold maxLen; omega
                  have HB2 : Hid ((an + 1) * 1 ≤ 140737488355328) := by show _ ≤ _; omega
                  have HB3 : Hid (W1.heap.size ≤ (w3.alloc (.cells #[bv x] 5)).heap.size) := by
                    have h9 := (HV.out.keep.trans' HK3.out).size
                    show _ ≤ _
                    simp
                    omega
                  have hm0 : ¬ (m : Int) = 0 := by omega
                  have hm0b : ((m : Int) == 0) = false := by simp; omega
                  obtain ⟨M, hM⟩ : ∃ M : Int, (m : Int) = M := ⟨_, rfl⟩
                  obtain ⟨Q, hQ⟩ : ∃ Q : Int, (q : Int) = Q := ⟨_, rfl⟩
                  have HQZ : Hid (q2 ≤ N ∧ N - q2 < N - q) := ⟨hq2l, by omega⟩
                  have HWQ : Hid (wrap64 (Q + M) = (q2 : Int)) := by
                    show _ = _
                    rw [← hM, ← hQ, hq2i]
                    unfold wrap64
                    omega
                  rw [hM] at hm0 hm0b
                  simp only [hM, hQ]
                  clear hM hQ hq2i hq2l hqq hqi hqN hak
                  obtain ⟨b32, hb32⟩ : ∃ b, (x == 32) = b := ⟨_, rfl⟩
                  obtain ⟨b35, hb35⟩ : ∃ b, (x == 35) = b := ⟨_, rfl⟩
                  rw [hb32, hb35] at HNX HBD
                  have hx32 : ((x.toNat : Int) == 32) = b32 := by rw [← hb32]; exact u8_beq x 32
                  have hx35 : ((x.toNat : Int) == 35) = b35 := by rw [← hb35]; exact u8_beq x 35
                  clear ho hq hr hm hq2 hb32 hb35 h0 HVB HVN HVM HONE hlq HAE
                  rcases Nat.eq_zero_or_pos an with ha | ha
                  · have HA0 : Hid (an = 0) := ha
                    have hgzb : ((an : Int) == 0) = true := by rw [ha]; rfl
                    have HDZ : Hid (decide (an = 0) = true) := by show _ = _; simp [ha]
                    rw [HDZ.out] at HNX HBD
                    clear ha
                    cases t
                    · cases b32
                      · cases b35
                        · have HVI := Lib.hid (HNX.out (by first | exact trivial | rfl))
                          go_wp2_with (at_builtin; refine wpList_append_opt rfl (.tmp 91) (.tmp 93) 83 rfl W1.heap.size 5 iu _ 1 1 Tryd.underlying83 hiu hzu0 hzu1 hzu2 rfl (by decide) (.slice A an cc) an (acc.map bv) rfl (own_keep HV.out.row (HK3.out.alloc _) (by simp)) (some ⟨w3.heap.size, 0, none⟩) 1 1 ([x].map bv) rfl rfl (src_lit6 w3 _ [x] rfl) bvs_one HB1.out HB2.out HB3.out ?_; intro v4 w4 ho hg4 hs4; obtain ⟨VB, vd, hv4, hnew⟩ := HV.out.more HVI.out HK3.out ho hg4; subst hv4; have HNEW := Lib.hid hnew; clear hnew ho hg4 hs4)
                          go_roundw
                          case rel => exact ⟨q2, VB, an + 1, vd, acc ++ [x], _, congrArg (Value.int IntKind.i64) HWQ.out, rfl, rfl, HNEW.out⟩
                          case measure =>
                            rw [HWQ.out]
                            exact mea62 HQZ.out.2
                        · have HBX3 := HGB.out w3 (HV.out.keep.trans' HK3.out)
                          obtain ⟨⟨c0, c1⟩, ⟨f0, f1⟩⟩ := blk2 HBX3
                          have HR := Lib.hid (HBAD2.out w3 (HV.out.keep.trans' HK3.out) (HBD.out (by first | exact trivial | rfl)))
                          have HR2 := Lib.hid (load2 _ g _ _ (set2 (v0 := .string ⟨#[]⟩) (v1 := .string ⟨#[]⟩) HBX3))
                          clear HBX3
                          go_wp2_with fail
                          refine bodyPost_ret (results_two2 rfl _ _ g _ rfl HR2.out) rfl ?_
                          exact HR.out
                      · have HBX3 := HGB.out w3 (HV.out.keep.trans' HK3.out)
                        obtain ⟨⟨c0, c1⟩, ⟨f0, f1⟩⟩ := blk2 HBX3
                        have HR := Lib.hid (HBAD2.out w3 (HV.out.keep.trans' HK3.out) (HBD.out (by first | exact trivial | rfl)))
                        have HR2 := Lib.hid (load2 _ g _ _ (set2 (v0 := .string ⟨#[]⟩) (v1 := .string ⟨#[]⟩) HBX3))
                        clear HBX3
                        go_wp2_with fail
                        refine bodyPost_ret (results_two2 rfl _ _ g _ rfl HR2.out) rfl ?_
                        exact HR.out
                    · cases b32
                      · have HVI := Lib.hid (HNX.out (by first | exact trivial | rfl))
                        go_wp2_with (at_builtin; refine wpList_append_opt rfl (.tmp 91) (.tmp 93) 83 rfl W1.heap.size 5 iu _ 1 1 Tryd.underlying83 hiu hzu0 hzu1 hzu2 rfl (by decide) (.slice A an cc) an (acc.map bv) rfl (own_keep HV.out.row (HK3.out.alloc _) (by simp)) (some ⟨w3.heap.size, 0, none⟩) 1 1 ([x].map bv) rfl rfl (src_lit6 w3 _ [x] rfl) bvs_one HB1.out HB2.out HB3.out ?_; intro v4 w4 ho hg4 hs4; obtain ⟨VB, vd, hv4, hnew⟩ := HV.out.more HVI.out HK3.out ho hg4; subst hv4; have HNEW := Lib.hid hnew; clear hnew ho hg4 hs4)
                        go_roundw
                        case rel => exact ⟨q2, VB, an + 1, vd, acc ++ [x], _, congrArg (Value.int IntKind.i64) HWQ.out, rfl, rfl, HNEW.out⟩
                        case measure =>
                          rw [HWQ.out]
                          exact mea62 HQZ.out.2
                      · have HVI := Lib.hid (HNX.out (by first | exact trivial | rfl))
                        go_wp2_with (at_builtin; refine wpList_append_opt rfl (.tmp 91) (.tmp 93) 83 rfl W1.heap.size 5 iu _ 1 1 Tryd.underlying83 hiu hzu0 hzu1 hzu2 rfl (by decide) (.slice A an cc) an (acc.map bv) rfl (own_keep HV.out.row (HK3.out.alloc _) (by simp)) (some ⟨w3.heap.size, 0, none⟩) 1 1 ([x].map bv) rfl rfl (src_lit6 w3 _ [x] rfl) bvs_one HB1.out HB2.out HB3.out ?_; intro v4 w4 ho hg4 hs4; obtain ⟨VB, vd, hv4, hnew⟩ := HV.out.more HVI.out HK3.out ho hg4; subst hv4; have HNEW := Lib.hid hnew; clear hnew ho hg4 hs4)
                        go_roundw
                        case rel => exact ⟨q2, VB, an + 1, vd, acc ++ [x], _, congrArg (Value.int IntKind.i64) HWQ.out, rfl, rfl, HNEW.out⟩
                        case measure =>
                          rw [HWQ.out]
                          exact mea62 HQZ.out.2
                  · have hgz : ¬ (an : Int) = 0 := by omega
                    have hgzb : ((an : Int) == 0) = false := by simp; omega
                    have HDZ : Hid (decide (an = 0) = false) := by show _ = _; simp; omega
                    rw [HDZ.out] at HNX
                    cases t
                    · cases b32
                      · have HVI := Lib.hid (HNX.out (by first | exact trivial | rfl))
                        go_wp2_with (at_builtin; refine wpList_append_opt rfl (.tmp 91) (.tmp 93) 83 rfl W1.heap.size 5 iu _ 1 1 Tryd.underlying83 hiu hzu0 hzu1 hzu2 rfl (by decide) (.slice A an cc) an (acc.map bv) rfl (own_keep HV.out.row (HK3.out.alloc _) (by simp)) (some ⟨w3.heap.size, 0, none⟩) 1 1 ([x].map bv) rfl rfl (src_lit6 w3 _ [x] rfl) bvs_one HB1.out HB2.out HB3.out ?_; intro v4 w4 ho hg4 hs4; obtain ⟨VB, vd, hv4, hnew⟩ := HV.out.more HVI.out HK3.out ho hg4; subst hv4; have HNEW := Lib.hid hnew; clear hnew ho hg4 hs4)
                        go_roundw
                        case rel => exact ⟨q2, VB, an + 1, vd, acc ++ [x], _, congrArg (Value.int IntKind.i64) HWQ.out, rfl, rfl, HNEW.out⟩
                        case measure =>
                          rw [HWQ.out]
                          exact mea62 HQZ.out.2
                      · have HVI := Lib.hid (HNX.out (by first | exact trivial | rfl))
                        go_wp2_with (at_builtin; refine wpList_append_opt rfl (.tmp 91) (.tmp 93) 83 rfl W1.heap.size 5 iu _ 1 1 Tryd.underlying83 hiu hzu0 hzu1 hzu2 rfl (by decide) (.slice A an cc) an (acc.map bv) rfl (own_keep HV.out.row (HK3.out.alloc _) (by simp)) (some ⟨w3.heap.size, 0, none⟩) 1 1 ([x].map bv) rfl rfl (src_lit6 w3 _ [x] rfl) bvs_one HB1.out HB2.out HB3.out ?_; intro v4 w4 ho hg4 hs4; obtain ⟨VB, vd, hv4, hnew⟩ := HV.out.more HVI.out HK3.out ho hg4; subst hv4; have HNEW := Lib.hid hnew; clear hnew ho hg4 hs4)
                        go_roundw
                        case rel => exact ⟨q2, VB, an + 1, vd, acc ++ [x], _, congrArg (Value.int IntKind.i64) HWQ.out, rfl, rfl, HNEW.out⟩
                        case measure =>
                          rw [HWQ.out]
                          exact mea62 HQZ.out.2
                    · cases b32
                      · have HVI := Lib.hid (HNX.out (by first | exact trivial | rfl))
                        go_wp2_with (at_builtin; refine wpList_append_opt rfl (.tmp 91) (.tmp 93) 83 rfl W1.heap.size 5 iu _ 1 1 Tryd.underlying83 hiu hzu0 hzu1 hzu2 rfl (by decide) (.slice A an cc) an (acc.map bv) rfl (own_keep HV.out.row (HK3.out.alloc _) (by simp)) (some ⟨w3.heap.size, 0, none⟩) 1 1 ([x].map bv) rfl rfl (src_lit6 w3 _ [x] rfl) bvs_one HB1.out HB2.out HB3.out ?_; intro v4 w4 ho hg4 hs4; obtain ⟨VB, vd, hv4, hnew⟩ := HV.out.more HVI.out HK3.out ho hg4; subst hv4; have HNEW := Lib.hid hnew; clear hnew ho hg4 hs4)
                        go_roundw
                        case rel => exact ⟨q2, VB, an + 1, vd, acc ++ [x], _, congrArg (Value.int IntKind.i64) HWQ.out, rfl, rfl, HNEW.out⟩
                        case measure =>
                          rw [HWQ.out]
                          exact mea62 HQZ.out.2
                      · have HVI := Lib.hid (HNX.out (by first | exact trivial | rfl))
                        go_wp2_with (at_builtin; refine wpList_append_opt rfl (.tmp 91) (.tmp 93) 83 rfl W1.heap.size 5 iu _ 1 1 Tryd.underlying83 hiu hzu0 hzu1 hzu2 rfl (by decide) (.slice A an cc) an (acc.map bv) rfl (own_keep HV.out.row (HK3.out.alloc _) (by simp)) (some ⟨w3.heap.size, 0, none⟩) 1 1 ([x].map bv) rfl rfl (src_lit6 w3 _ [x] rfl) bvs_one HB1.out HB2.out HB3.out ?_; intro v4 w4 ho hg4 hs4; obtain ⟨VB, vd, hv4, hnew⟩ := HV.out.more HVI.out HK3.out ho hg4; subst hv4; have HNEW := Lib.hid hnew; clear hnew ho hg4 hs4)
                        go_roundw
                        case rel => exact ⟨q2, VB, an + 1, vd, acc ++ [x], _, congrArg (Value.int IntKind.i64) HWQ.out, rfl, rfl, HNEW.out⟩
                        case measure =>
                          rw [HWQ.out]
                          exact mea62 HQZ.out.2
            · obtain rfl : q = N := by omega
              have HH : Hid (T.length ≤ q ∨ T[q]? = some 44) := .inl (by rw [HN.out]; exact Nat.le_refl _)
              have HFN := Lib.hid (HPI.out acc bl (T.drop q) (HV.out.inv.fin HH.out))
              have hcb := conv_bytes (BytesAt.of_own (by have h9 := HV.out.row; rw [← HV.out.len] at h9; exact h9))
              rw [HV.out.len] at hcb
              have HBC := HCB.out wr HV.out.keep
              obtain ⟨⟨c0, c1⟩, ⟨f0, f1⟩⟩ := blk2 HBC
              have HX1 := Lib.hid (heap_setCell_same wr c 1 _ 53 (.string ⟨acc.toArray⟩) HBC)
              have HKX : Hid (Keeps [c] wr (wr.setCell ⟨c, 1, none⟩ (.string ⟨acc.toArray⟩))) := (Keeps.refl [c] wr).setCell (.inl (by simp)) _
              have HGX : Hid ((wr.setCell ⟨c, 1, none⟩ (.string ⟨acc.toArray⟩)).heap[g]? = some (.cells #[.string ⟨#[]⟩, .string ⟨#[]⟩] 53 (0, 0))) := blk_keep (HGB.out wr HV.out.keep) HKX.out (by simp; exact HGC.out)
              obtain ⟨⟨d0, d1⟩, _⟩ := blk2 HX1.out
              obtain ⟨⟨e0, e1⟩, ⟨i0, i1⟩⟩ := blk2 HGX.out
              have HKF : Hid (Keeps [] w (((wr.setCell ⟨c, 1, none⟩ (.string ⟨acc.toArray⟩)).setCell ⟨g, 0, none⟩ (.string ⟨sk.toArray⟩)).setCell ⟨g, 1, none⟩ (.string ⟨acc.toArray⟩))) :=
                ((((HKW.out.trans' HV.out.keep)).setCell (.inr HCG.out) _).setCell (.inr HG.out.1) _).setCell (.inr HG.out.1) _
              have HR2 := Lib.hid (load2 _ g _ _ (set2 (v0 := .string ⟨sk.toArray⟩) (v1 := .string ⟨acc.toArray⟩) HGX.out))
              have hal := HV.out.len
              have HKQ : Hid (k < q ∧ q ≤ T.length) := ⟨by have h8 := HV.out.inv.1; have h9 := HKJ.out; omega, HV.out.inv.2.1⟩
              have HSK := Lib.hid hskl
              have HAL : Hid (acc.length ≤ 1000000000) := by show _ ≤ _; have h8 := HV.out.inv.2.2.1; have h9 := HKQ.out.2; have h7 := HLL.out; omega
              rw [hal] at HFN
              have HSAY : Hid (∀ r : Bool, (!bl && (decide (1 ≤ an) && decide (an ≤ 200))) = r → PartQ T k w (.returned (.tuple #[.agg #[.string ⟨sk.toArray⟩, .string ⟨acc.toArray⟩], .int .i64 (q : Int), .bool r])) (((wr.setCell ⟨c, 1, none⟩ (.string ⟨acc.toArray⟩)).setCell ⟨g, 0, none⟩ (.string ⟨sk.toArray⟩)).setCell ⟨g, 1, none⟩ (.string ⟨acc.toArray⟩))) := fun r hr => by
                have h9 := HFN.out
                rw [hr] at h9
                cases r with
                | false =>
                  simp only [Bool.false_eq_true, if_false] at h9
                  exact ⟨fun p r h2 => (by rw [h9] at h2; cases h2), fun _ => ⟨sk, acc, q, rfl⟩, HKF.out⟩
                | true =>
                  simp only [if_true] at h9
                  refine ⟨fun p r h2 => ?_, fun h2 => (by rw [h9] at h2; cases h2), HKF.out⟩
                  rw [h9] at h2
                  simp only [Option.some.injEq, Prod.mk.injEq] at h2
                  obtain ⟨rfl, rfl⟩ := h2
                  exact ⟨q, rfl, HKQ.out.1, HKQ.out.2, rfl, HSK.out, HAL.out⟩
              clear HFN hal
              cases bl with
              | true =>
                have HR := Lib.hid (HSAY.out false rfl)
                go_wp2_with fail
                refine bodyPost_ret (results_two2 rfl _ _ g _ rfl HR2.out) rfl ?_
                exact HR.out
              | false =>
                rcases Nat.eq_zero_or_pos an with h0 | h0
                · have HR := Lib.hid (HSAY.out false (by rw [h0]; rfl))
                  have g1 : ¬ (1 : Int) ≤ (an : Int) := by omega
                  have g1b : decide ((1 : Int) ≤ (an : Int)) = false := by simp; omega
                  clear h0
                  go_wp2_with fail
                  refine bodyPost_ret (results_two2 rfl _ _ g _ rfl HR2.out) rfl ?_
                  exact HR.out
                · have g1 : (1 : Int) ≤ (an : Int) := by omega
                  have g1b : decide ((1 : Int) ≤ (an : Int)) = true := by simp; omega
                  rcases Nat.lt_or_ge 200 an with h2 | h2
                  · have HR := Lib.hid (HSAY.out false (by rw [show decide (an ≤ 200) = false by simp; omega]; simp))
                    have g2 : ¬ (an : Int) ≤ 200 := by omega
                    have g2b : decide ((an : Int) ≤ 200) = false := by simp; omega
                    clear h0 h2
                    go_wp2_with fail
                    refine bodyPost_ret (results_two2 rfl _ _ g _ rfl HR2.out) rfl ?_
                    exact HR.out
                  · have HR := Lib.hid (HSAY.out true (by rw [show decide (an ≤ 200) = true by simp; omega, show decide (1 ≤ an) = true by simp; omega]; rfl))
                    have g2 : (an : Int) ≤ 200 := by omega
                    have g2b : decide ((an : Int) ≤ 200) = true := by simp; omega
                    clear h0 h2
                    go_wp2_with fail
                    refine bodyPost_ret (results_two2 rfl _ _ g _ rfl HR2.out) rfl ?_
                    exact HR.out
      · have hub : ((u.toNat : Int) != 61) = true := by
          have : u.toNat ≠ 61 := fun e => h61 (UInt8.toNat_inj.1 e)
          simp; omega
        have hun : ¬ (u.toNat : Int) = 61 := by
          have : u.toNat ≠ 61 := fun e => h61 (UInt8.toNat_inj.1 e)
          omega
        have HE2 := Lib.hid (HE.out.next hu h61)
        clear hu h61
        go_wp2_with fail
        go_roundw
        case rel => exact ⟨j + 1, by go_num, by omega, HE2.out, trivial⟩
        case measure => simp [intOf]; omega
    · obtain rfl : j = N := by omega
      have HPD : Hid (partD (T.drop k) = none) := partD_noeq (HE.out.none (by rw [HN.out]; exact Nat.le_refl _))
      obtain ⟨⟨c0, c1⟩, ⟨f0, f1⟩⟩ := blk2 HBV.out
      have HR := Lib.hid (HBAD.out _ (Keeps.refl _ _) HPD.out)
      have HR2 := Lib.hid (load2 _ g _ _ (set2 (v0 := .string ⟨#[]⟩) (v1 := .string ⟨#[]⟩) HBV.out))
      go_wp2_with fail
      refine bodyPost_ret (results_two2 rfl _ _ g _ rfl HR2.out) rfl ?_
      exact HR.out
end Go.Proofs.YtmgkejgmkfeccaaDoor
