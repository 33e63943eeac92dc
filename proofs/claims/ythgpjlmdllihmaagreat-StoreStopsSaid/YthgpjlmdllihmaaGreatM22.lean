/- Texts of one proof, laid together: U23. -/
import Derived.Test.YthgpjlmdllihmaaGreatM21
import Derived.Test.YthgpjlmdllihmaaGreatM16
import Derived.Deep.RegionHeld3
import Derived.Deep.DeepCutAuto
import Derived.Deep.CutBlock
import Derived.Deep.RegionHeldLaw
/- image, walked: the title's part. -/
namespace Go.Proofs.YthgpjlmdllihmaaGreat
open Go.RowKit Go.Shelf Go.Maps
set_option linter.unusedVariables false
set_option linter.unusedSimpArgs false
set_option maxRecDepth 100000

/-- What an image is made of: the parts are in order, the box of the area stands. -/
structure ImI (w : World) (m : Option Nat) (T : Tab) (at_ turn : Nat) (X : World) : Prop where
  box : X.heap[w.heap.size]? = some (.cells #[.int .i64 (at_ : Int), .int .u32 (turn : Int), .map m] 62 (0, 0))
  tab : TabV X m T
  keep : Keeps [] w X
theorem ImI.grow {w : World} {m : Option Nat} {T : Tab} {at_ turn : Nat} {X Y : World} (h : ImI w m T at_ turn X) (hk : Keeps [] X Y) : ImI w m T at_ turn Y := ⟨blk_keep h.box hk (by simp), h.tab.grow hk, h.keep.trans' hk⟩
theorem ImI.facts {w : World} {m : Option Nat} {T : Tab} {at_ turn : Nat} {X : World} (h : ImI w m T at_ turn X) :
    X.cell? ⟨w.heap.size, 1, none⟩ = some (.int .u32 (turn : Int)) ∧ X.cell? ⟨w.heap.size, 2, none⟩ = some (.map m) ∧ (Builtin.len_ #[60] 3 #[.map m]).run Tryz.prog X = .ok (.int .i64 (T.length : Nat)) X := by
  obtain ⟨⟨_, c1, c2⟩, _⟩ := three_facts h.box
  exact ⟨c1, c2, run_tlen h.tab 60 Tryz.underlying60 3⟩

theorem ImI.next {w : World} {m : Option Nat} {T : Tab} {at_ turn : Nat} {X Y : World} (h : ImI w m T at_ turn X) (hm : ∀ b, m = some b → b < w.heap.size) {e : TypeId} {k n : Nat} {v : Value} {xs : List Value} (ho : X.ownsRow (w.heap.size + 1) e k v n xs) (hg : X.grownBy Y v.ownBlock) : ImI w m T at_ turn Y := by
  have hk := grown_ownS ho hg
  have hb : ∀ b ∈ v.ownBlock.toList, w.heap.size + 1 ≤ b := fun b hb => (ho.lt b (by simpa using hb)).1
  exact ⟨blk_keep h.box hk (fun hc => by have := hb _ hc; omega), h.tab.keep hk (fun b h1 hc => by have := hb _ hc; have := hm b h1; omega), h.keep.trans hk (fun x hx => .inr (by have := hb _ hx; omega))⟩

/-- The title's frame, made. -/
theorem title_frame (turn n : Nat) (X : World) (a b g : Nat) (ha : a = X.heap.size) (hb : b = X.heap.size + 1) (hg : g = X.heap.size + 1 + 1) :
    Calls Tryz.prog 76 #[.slice (some ⟨g, 0, none⟩) 2 2] (((X.alloc (.cells ((four turn).map bv).toArray 5)).alloc (.cells ((four n).map bv).toArray 5)).alloc (.cells #[.slice (some ⟨a, 0, none⟩) 4 4, .slice (some ⟨b, 0, none⟩) 4 4] 55))
      fun e w' => ∃ g2 cp, e = .returned (.slice (some ⟨g2, 0, none⟩) 20 cp) ∧ X.heap.size ≤ g2 ∧ Mine w' g2 cp (frameOf (titleRec turn n)) ∧ Keeps [] X w' := by
  have hfl : [four turn, four n].flatten = titleRec turn n := by simp [titleRec]
  have hl8 : (titleRec turn n).length = 8 := by simp [titleRec, four_len]
  have hk : Keeps [] X (((X.alloc (.cells ((four turn).map bv).toArray 5)).alloc (.cells ((four n).map bv).toArray 5)).alloc (.cells #[.slice (some ⟨a, 0, none⟩) 4 4, .slice (some ⟨b, 0, none⟩) 4 4] 55)) := (((Keeps.refl [] X).alloc _).alloc _).alloc _
  have hp : Lib.PartsAt (((X.alloc (.cells ((four turn).map bv).toArray 5)).alloc (.cells ((four n).map bv).toArray 5)).alloc (.cells #[.slice (some ⟨a, 0, none⟩) 4 4, .slice (some ⟨b, 0, none⟩) 4 4] 55)) ⟨g, 0, none⟩ [.slice (some ⟨a, 0, none⟩) 4 4, .slice (some ⟨b, 0, none⟩) 4 4] [four turn, four n] :=
    parts_two (by simp [hg]) (hb_al _ (four_holds X turn a ha)) (four_holds _ n b (by simp [hb]))
  have := framedS_is g 0 2 2 _ [four turn, four n] _ rfl (by decide) (by decide) (by decide) hp (by rw [hfl, hl8]; decide) (by rw [hfl, hl8]; decide)
  rw [hfl, hl8] at this
  refine this.mono ?_
  rintro e w' ⟨g2, cp, rfl, h1, h2, h3⟩
  exact ⟨g2, cp, rfl, Nat.le_trans hk.size h1, h2, hk.trans' h3⟩

set_option maxHeartbeats 8000000 in
theorem image_is (m : Option Nat) (T : Tab) (at_ turn : Nat) (w : World) (h : TabV w m T) (ht : turn < 4294967296) (hT : Good T) (hw : tweight T ≤ 1000000) :
    Calls Tryz.prog 60 #[.agg #[.int .i64 (at_ : Int), .int .u32 (turn : Int), .map m]] w fun e w' => ∃ g cp, e = .returned (.slice (some ⟨g, 0, none⟩) (image turn T).length cp) ∧ w.heap.size ≤ g ∧ Mine w' g cp (image turn T) ∧ Keeps [] w w' := by
  have hfew := hT.few
  have HMM : Hid (∀ b, m = some b → b < w.heap.size) := fun b hb => by subst hb; exact h.lt
  have hn4 : T.length < 4294967296 := by omega
  have hI0 : ImI w m T at_ turn (w.alloc (.cells #[.int .i64 (at_ : Int), .int .u32 (turn : Int), .map m] 62)) := ⟨heap_alloc_new w _, h.grow ((Keeps.refl [] w).alloc _), (Keeps.refl [] w).alloc _⟩
  have HG := Lib.hid hT
  obtain ⟨X0, hX0⟩ : ∃ X0, w.alloc (.cells #[.int .i64 (at_ : Int), .int .u32 (turn : Int), .map m] 62) = X0 := ⟨_, rfl⟩
  have hz0 : X0.heap.size = w.heap.size + 1 := by rw [← hX0]; simp
  rw [hX0] at hI0
  have HI0 := Lib.hid hI0
  have HSK : Hid (∀ Z, Keeps [] X0 Z → Z.cell? ⟨w.heap.size, 1, none⟩ = some (.int .u32 (turn : Int)) ∧ Z.cell? ⟨w.heap.size, 2, none⟩ = some (.map m) ∧ (Builtin.len_ #[60] 3 #[.map m]).run Tryz.prog Z = .ok (.int .i64 (T.length : Nat)) Z) := fun Z hZ => (hI0.grow hZ).facts
  have hwr : IntKind.u32.wrap (T.length : Int) = (T.length : Int) := by rw [IntKind.wrap_u32]; omega
  have hfl : [four turn, four T.length].flatten = titleRec turn T.length := by simp [titleRec]
  have hfl8 : [four turn, four T.length].flatten.length = 8 := by simp [four_len]
  clear h hT hI0
  go_enter Tryz.func60, Tryz.ntmps60
  go_wp2_with fail
  go_region_held3 (fun w' => w'.cell? ⟨w.heap.size, 1, none⟩ = some (.int .u32 (turn : Int)) ∧ w'.cell? ⟨w.heap.size, 2, none⟩ = some (.map m) ∧ (Builtin.len_ #[60] 3 #[.map m]).run Tryz.prog w' = .ok (.int .i64 (T.length : Nat)) w') (exact HSK.out _ (by repeat (first | exact Keeps.refl [] _ | exact HK.out | refine Keeps.alloc ?_ _ | refine Keeps.drew ?_)))
    (first
    | (go_at_call_of 77 (Value.int .u32 (turn : Int)); refine (bytesof_is turn _ ht).mono ?_; rintro e w1 ⟨rfl, rfl⟩)
    | (go_at_call_of 77 (Value.int .u32 (T.length : Int)); refine (bytesof_is T.length _ hn4).mono ?_; rintro e w1 ⟨rfl, rfl⟩)
    | (go_at_call 76; refine (title_frame turn T.length X0.drew _ _ _ (by simp [hz0]) (by simp [hz0]) (by simp [hz0])).mono ?_; rintro e w1 ⟨g, cp, rfl, hg, hM, hk⟩; have HM := Lib.hid hM; have HK := Lib.hid (((Keeps.refl [] X0).drew).trans' hk); clear hM hk))
  have hfl20 : (frameOf (titleRec turn T.length)).length = 20 := by rw [frameOf_len]; simp [titleRec, four_len]
  have hX1l := HM.out.lt
  have hP1 := Pts.one (B := w.heap.size + 1) (X := w1) (l := frameOf (titleRec turn T.length)) (g := g) (c := cp) (by have := HK.out.size; omega) (holds_of_bytes HM.out.bytes) hX1l
  rw [hfl20] at hP1
  have hI1 := (HI0.out.grow HK.out).grow ((Keeps.refl [] w1).alloc (.cells #[.slice (some ⟨g, 0, none⟩) 20 cp] 55))
  have hK1 := HK.out.alloc (.cells #[.slice (some ⟨g, 0, none⟩) 20 cp] 55)
  obtain ⟨X1, hX1⟩ : ∃ X1, w1.alloc (.cells #[.slice (some ⟨g, 0, none⟩) 20 cp] 55) = X1 := ⟨_, rfl⟩
  rw [hX1] at hP1 hI1 hK1
  have HP1 := Lib.hid hP1
  have HI1 := Lib.hid hI1
  have hz1 : X1.heap.size = w1.heap.size + 1 := by rw [← hX1]; simp
  obtain ⟨_, x12, _⟩ := hI1.facts
  have HO := Lib.hid (inorder_is m T X1 hI1.tab (by omega))
  clear hP1 hI1 hK1 HSK
  go_wp2_with fail
  refine HO.out.mono ?_
  rintro e w2 ⟨A, c, rfl, hko, hk2⟩
  have HP2 := Lib.hid (HP1.out.keep hk2)
  have HI2 := Lib.hid (HI1.out.grow hk2)
  have HKO := Lib.hid hko
  have HAP : Hid (∀ b, (Value.slice A T.length c).ownBlock = some b → (Value.slice (some ⟨w1.heap.size, 0, none⟩) 1 1).ownBlock ≠ some b) := fun b hb hc => by
    have := (hko.lt b hb).1
    injection hc with hc
    simp at hc
    omega
  clear hko hk2 HO
  go_wp2_with fail
  go_loopw [3, 5, 21] (fun pv _ i wr => ∃ (j : Nat) (vals : List Value), i = .int .i64 (j : Int) ∧ j ≤ T.length ∧ Hid (Pts (w.heap.size + 1) wr pv vals (frameOf (titleRec turn T.length) :: (T.take j).map fun p => frameOf (rowRec p))) ∧ Hid (ImI w m T at_ turn wr) ∧ Hid (wr.ownsRow X1.heap.size 9 1 (.slice A T.length c) T.length (T.map fun p => encStr p.1)) ∧ Hid (∀ b, (Value.slice A T.length c).ownBlock = some b → pv.ownBlock ≠ some b)) (fun _ _ i _ => T.length - (intOf i).toNat)
  case atStart => exact ⟨0, _, rfl, Nat.zero_le _, HP2, HI2, HKO, HAP⟩
  case round =>
    obtain ⟨j, vals, rfl, hj, HPj, HIj, HKj, HAj⟩ := hrel
    by_cases hlt : j < T.length
    · have hpm : T[j]? = some (T[j]'hlt) := List.getElem?_eq_getElem hlt
      obtain ⟨k1, k2, k3⟩ := HG.out.key _ (List.getElem_mem hlt)
      have hgv := tget_at HG.out.rise hlt
      have htake : (T.take (j + 1)).map (fun p => frameOf (rowRec p)) = (T.take j).map (fun p => frameOf (rowRec p)) ++ [frameOf (rowRec (T[j]'hlt))] := by
        rw [List.take_succ_eq_append_getElem hlt, List.map_append]
        rfl
      obtain ⟨b0, rfl⟩ : ∃ b0, A = some ⟨b0, 0, none⟩ := by
        rcases HKj.out.2 with ⟨_, h0⟩ | ⟨g0, cap0, cur0, h0, _⟩
        · omega
        · injection h0 with h0
          exact ⟨g0, h0⟩
      have kcell := HKj.out.cells rfl j (.string ⟨(T[j]'hlt).1.toArray⟩) (by rw [List.getElem?_map, hpm]; rfl)
      rw [add_at, Nat.zero_add] at kcell
      have hrec : [four (T[j]'hlt).1.length, (T[j]'hlt).1, (T[j]'hlt).2].flatten = rowRec (T[j]'hlt) := by simp [rowRec]
      have hrl : (rowRec (T[j]'hlt)).length = 4 + (T[j]'hlt).1.length + (T[j]'hlt).2.length := rowRec_len _
      have hlook : ∀ Z, ImI w m T at_ turn Z → (Instr.lookup 60 (.map m) (.string ⟨(T[j]'hlt).1.toArray⟩) false).run Tryz.prog Z = .ok (.agg #[.string ⟨(T[j]'hlt).2.toArray⟩]) Z := fun Z hZ => by
        have := (run_look hZ.tab 60 Tryz.underlying60 (T[j]'hlt).1 (by unfold maxLen; omega)).2
        rw [this, hgv]
      have HTK := Lib.hid htake
      have HRL := Lib.hid hrl
      clear htake hpm hrl hgv
      generalize T[j]'hlt = p at *
      obtain ⟨k, v⟩ := p
      have hSK : Hid (∀ Z, ImI w m T at_ turn Z → Z.cell? ⟨w.heap.size, 2, none⟩ = some (.map m) ∧ (Instr.lookup 60 (.map m) (.string ⟨k.toArray⟩) false).run Tryz.prog Z = .ok (.agg #[.string ⟨v.toArray⟩]) Z) := fun Z hZ => ⟨hZ.facts.2.1, hlook Z hZ⟩
      have HRC : Hid ([four k.length, k, v].flatten = rowRec (k, v)) := hrec
      have HRN : Hid ((rowRec (k, v)).length = 4 + k.length + v.length) := HRL.out
      have hown := HPj.out.own
      have hlen : (frameOf (titleRec turn T.length) :: (T.take j).map fun p => frameOf (rowRec p)).length = j + 1 := by simp; omega
      rw [hlen] at hown
      obtain ⟨PA, pc, rfl⟩ := own_slice hown
      have HOW := Lib.hid hown
      clear hlen
      obtain ⟨ib, hib, hb0, hb1, hb2⟩ := info_parts bytes_infoS
      obtain ⟨C1, O1, kc1, oc1⟩ := conv_opq k
      obtain ⟨C2, O2, kc2, oc2⟩ := conv_opq v
      have OC1 := Lib.hid oc1
      have OC2 := Lib.hid oc2
      clear oc1 oc2
      have kf := field_row ⟨v.toArray⟩
      have hwk : IntKind.u32.wrap (k.length : Int) = (k.length : Int) := by rw [IntKind.wrap_u32]; simp only [] at k1 k2; omega
      have hk4 : k.length < 4294967296 := by simp only [] at k2; omega
      have hv4 : v.length ≤ 8192 := k3
      have hk2' : k.length ≤ 200 := k2
      clear hlook hrec HRL hown k1 k2 k3
      have HFIN : Hid (∀ (w4 w6 : World) (g4 cp4 : Nat) (v6 : Value), Keeps [] wr w4 → wr.heap.size ≤ g4 → Mine w4 g4 cp4 (frameOf (rowRec (k, v))) →
          w6.ownsRow (w.heap.size + 1) 55 1 v6 (j + 1 + 1) (vals ++ [.slice (some ⟨g4, 0, none⟩) ((rowRec (k, v)).length + 12) cp4]) → (w4.alloc (.cells #[.slice (some ⟨g4, 0, none⟩) ((rowRec (k, v)).length + 12) cp4] 55)).grownBy w6 (Value.slice PA (j + 1) pc).ownBlock →
          (v6.ownBlock = (Value.slice PA (j + 1) pc).ownBlock ∨ v6.ownBlock = some (w4.alloc (.cells #[.slice (some ⟨g4, 0, none⟩) ((rowRec (k, v)).length + 12) cp4] 55)).heap.size) →
          ∃ vals6, Hid (Pts (w.heap.size + 1) w6 v6 vals6 (frameOf (titleRec turn T.length) :: (T.take (j + 1)).map fun p => frameOf (rowRec p))) ∧ Hid (ImI w m T at_ turn w6) ∧ Hid (w6.ownsRow X1.heap.size 9 1 (.slice (some ⟨b0, 0, none⟩) T.length c) T.length (T.map fun p => encStr p.1)) ∧ Hid (∀ b, (Value.slice (some ⟨b0, 0, none⟩) T.length c).ownBlock = some b → v6.ownBlock ≠ some b)) := by
        intro w4 w6 g4 cp4 v6 h4 hg4 hM4 ho6 hg6 hs6
        have hka : Keeps [] wr (w4.alloc (.cells #[.slice (some ⟨g4, 0, none⟩) ((rowRec (k, v)).length + 12) cp4] 55)) := h4.alloc _
        have hpa := HPj.out.keep hka
        have hfr : (frameOf (rowRec (k, v))).length = (rowRec (k, v)).length + 12 := frameOf_len _
        have hown2 := own_keep HOW.out hka (by simp)
        have hlt4 := hM4.lt
        have hne : (Value.slice PA (j + 1) pc).ownBlock ≠ some g4 := fun hc => by
          have := (HOW.out.lt g4 hc).2
          omega
        have hsn := Pts.snoc (l := frameOf (rowRec (k, v))) (g := g4) (c := cp4) hpa (hb_al _ (holds_of_bytes hM4.bytes)) hne (by simp; omega) (by rw [hfr]; simpa [Nat.min_eq_left (show j ≤ T.length by omega)] using ho6) hg6 hs6
        rw [hfr] at hsn
        rw [HTK.out]
        have hkk := grown_ownS hown2 hg6
        refine ⟨_, Lib.hid hsn, (HIj.out.grow hka).next HMM.out hown2 hg6, own_keep (own_keep HKj.out hka (by simp)) hkk (fun b hb hm => ?_), fun b hb hc => ?_⟩
        · exact HAj.out b hb (by simpa using hm)
        · rcases hs6 with h | h
          · rw [h] at hc; exact HAj.out b hb hc
          · rw [h] at hc
            injection hc with hc
            have := (HKj.out.lt b hb).2
            have := hka.size
            omega
      go_upto_block 1 with fail
      go_cut [3, 5] from 23 to 41 (fun s3 s5 wx => ∃ v6 vals6, s3 = v6 ∧ Hid (Pts (w.heap.size + 1) wx v6 vals6 (frameOf (titleRec turn T.length) :: (T.take (j + 1)).map fun p => frameOf (rowRec p))) ∧ Hid (ImI w m T at_ turn wx) ∧ Hid (wx.ownsRow X1.heap.size 9 1 (.slice (some ⟨b0, 0, none⟩) T.length c) T.length (T.map fun p => encStr p.1)) ∧ Hid (∀ b, (Value.slice (some ⟨b0, 0, none⟩) T.length c).ownBlock = some b → v6.ownBlock ≠ some b))
      case first =>
        clear hfl hfl8 hwr x12 hX0 hX1 hz0 hz1 hfl20
        go_wp2_with fail
        go_region_held_law (fun w' => w'.cell? ⟨w.heap.size, 2, none⟩ = some (.map m) ∧ (Instr.lookup 60 (.map m) (.string ⟨k.toArray⟩) false).run Tryz.prog w' = .ok (.agg #[.string ⟨v.toArray⟩]) w') (exact hSK.out _ (by first | exact HI6.out | exact HIj.out.grow (by repeat (first | exact Keeps.refl [] _ | exact K4.out | refine Keeps.alloc ?_ _ | refine Keeps.drew ?_))))
          (first
          | (go_at_call 77; refine (bytesof_is k.length _ hk4).mono ?_; rintro e w1 ⟨rfl, rfl⟩)
          | (refine step_append_optS rfl (.tmp 25) (.tmp 40) 135 rfl (w.heap.size + 1) 55 ib _ 1 24 Tryz.underlying135 hib hb0 hb1 hb2 rfl (by decide) (.slice PA (j + 1) pc) (j + 1) vals rfl (own_keep HOW.out (K4.out.alloc _) (by simp)) (some ⟨w4.heap.size, 0, none⟩) 1 1 [.slice (some ⟨g4, 0, none⟩) ((rowRec (k, v)).length + 12) cp4] rfl rfl (src_oneS _ _ _) (by simp [Value.oneCell']) (by unfold maxLen; omega) (by omega) (by have := K4.out.size; have := HIj.out.keep.size; simp; omega) ?_; intro v6 w6 ho6 hg6 hs6; have HO6 := Lib.hid ho6; have HG6 := Lib.hid hg6; have HS6 := Lib.hid hs6; have HI6 := Lib.hid (ImI.next (HIj.out.grow (K4.out.alloc (.cells #[.slice (some ⟨g4, 0, none⟩) ((rowRec (k, v)).length + 12) cp4] 55))) HMM.out (own_keep HOW.out (K4.out.alloc (.cells #[.slice (some ⟨g4, 0, none⟩) ((rowRec (k, v)).length + 12) cp4] 55)) (by simp)) hg6); clear ho6 hg6 hs6)
          | (go_at_call 76; refine (framedS_is _ 0 3 3 _ [four k.length, k, v] _ rfl (by decide) (by decide) (by decide) (by repeat' (first | exact four_holds _ _ _ (by simp) | exact OC1.out _ _ _ _ (by simp) | exact OC2.out _ _ _ _ (by simp) | refine parts_three (by simp) ?_ ?_ ?_ | refine parts_dr ?_ | refine hb_al _ ?_ | refine hb_dr ?_)) (by rw [HRC.out, HRN.out]; omega) (by rw [HRC.out, HRN.out]; omega)).mono ?_; rw [HRC.out]; rintro e w4 ⟨g4, cp4, rfl, hg4, hM4, hk4'⟩; have K4 : Hid (Keeps [] wr w4) := Keeps.trans' (by repeat (first | exact Keeps.refl [] _ | refine Keeps.alloc ?_ _ | refine Keeps.drew ?_)) hk4'; have HM4 := Lib.hid hM4; have HG4 : Hid (wr.heap.size ≤ g4) := Nat.le_trans (Keeps.size (bs := []) (by repeat (first | exact Keeps.refl [] _ | refine Keeps.alloc ?_ _ | refine Keeps.drew ?_))) hg4; clear hk4' hM4 hg4))
        all_goals
          go_wp2_with fail
          rename_i hx
          cases hx <;> (go_meet; obtain ⟨vals6, q⟩ := HFIN.out _ _ _ _ _ K4.out HG4.out HM4.out HO6.out HG6.out HS6.out; exact ⟨_, vals6, rfl, q⟩)
      case rest =>
        obtain ⟨v6, vals6, rfl, q1, q2, q3, q4⟩ := hcut
        go_wp2_with fail
        go_roundw
        case rel => exact ⟨j + 1, vals6, by go_num, by omega, q1, q2, q3, q4⟩
        case measure => simp [intOf]; omega
    · obtain rfl : j = T.length := by omega
      have htk : T.take T.length = T := List.take_length
      rw [htk] at HPj
      have hfj : (frameOf (titleRec turn T.length) :: T.map fun p => frameOf (rowRec p)).flatten = image turn T := by
        simp [image, joinF, List.flatMap, List.map_map, Function.comp_def]
      have hil := image_len turn T
      have HJ := Lib.hid (join_pts _ _ _ _ wr HPj.out (by simp) (by simp; omega) (by simp [frameOf_len]) (by rw [hfj, hil]; omega))
      rw [hfj] at HJ
      clear hfj hil
      go_wp2_with fail
      refine HJ.out.mono ?_
      rintro e w5 ⟨g5, cp5, rfl, h5, hM5, hk5⟩
      have HM5 := Lib.hid hM5
      have HK5 := Lib.hid hk5
      clear hM5 hk5
      go_wp2_with fail
      go_ret
      have := HIj.out.keep.size
      exact ⟨_, _, rfl, by omega, HM5.out, HIj.out.keep.trans' HK5.out⟩

end Go.Proofs.YthgpjlmdllihmaaGreat
