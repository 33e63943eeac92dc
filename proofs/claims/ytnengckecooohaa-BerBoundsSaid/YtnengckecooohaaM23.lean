/- Texts of one proof, laid together: T12 T13 T14 T15. -/
import Derived.Test.YtnengckecooohaaM22
import Derived.Test.YtnengckecooohaaM10
/- ber: what Encode refuses is what the document's Check refuses. -/
namespace Go.Proofs.Ytnengckecooohaa
open Go.RowKit Go.Shelf
set_option linter.unusedVariables false
set_option linter.unusedSimpArgs false
set_option maxRecDepth 100000

theorem sizeL_ge : ∀ (l : List BV) (a : Nat), a ≤ sizeL a l
  | [], a => by simp [sizeL]
  | t :: r, a => by
    unfold sizeL
    split
    · have := sizeL_ge r (a + sizeB t); omega
    · omega

/-- How long the bytes are, or that they are too long. -/
def LenOK (t : BV) : Prop := (∀ xs, layB t = some xs → sizeB t = xs.length ∧ xs.length ≤ 65536) ∧ (layB t = none → 65536 < sizeB t)
theorem lays_len : ∀ (l : List BV) (acc : List UInt8), acc.length ≤ 65536 → (∀ t ∈ l, LenOK t) →
    (∀ its, layL acc l = some its → sizeL acc.length l = its.length ∧ its.length ≤ 65536) ∧ (layL acc l = none → 65536 < sizeL acc.length l)
  | [], acc, ha, _ => by
    refine ⟨fun its h => ?_, fun h => ?_⟩
    · unfold layL at h
      injection h with h
      subst h
      exact ⟨by simp [sizeL], ha⟩
    · unfold layL at h
      cases h
  | t :: r, acc, ha, hi => by
    have ht := hi t (by simp)
    unfold layL sizeL
    rw [if_pos ha]
    cases hx : layB t with
    | none =>
      have h1 := ht.2 hx
      refine ⟨fun its h => (by cases h), fun _ => ?_⟩
      have := sizeL_ge r (acc.length + sizeB t)
      omega
    | some x =>
      obtain ⟨h1, h2⟩ := ht.1 x hx
      rw [h1]
      show (∀ its, (if 65536 < acc.length + x.length then none else layL (acc ++ x) r) = some its → _) ∧ ((if 65536 < acc.length + x.length then none else layL (acc ++ x) r) = none → _)
      by_cases hb : 65536 < acc.length + x.length
      · rw [if_pos hb]
        refine ⟨fun its h => (by cases h), fun _ => ?_⟩
        have := sizeL_ge r (acc.length + x.length)
        omega
      · rw [if_neg hb]
        have h3 := lays_len r (acc ++ x) (by rw [List.length_append]; omega) (fun t h => hi t (by simp [h]))
        rw [List.length_append] at h3
        exact h3
theorem badL_mem : ∀ (l : List BV), badL l = false → ∀ t ∈ l, badB t = false
  | [], _, t, h => by cases h
  | x :: r, hb, t, h => by
    simp only [badL, Bool.or_eq_false_iff] at hb
    rcases List.mem_cons.1 h with rfl | h
    · exact hb.1
    · exact badL_mem r hb.2 t h
theorem lay_len (t : BV) : badB t = false → LenOK t := by
  induction t using BV.ind with
  | h c n k b l ih =>
    intro hb
    have hb' : (!stands (.mk c n k b l) || badL l) = false := hb
    rw [Bool.or_eq_false_iff] at hb'
    have hs : stands (.mk c n k b l) = true := by simpa using hb'.1
    have hz : (if k then b.length else l.length) = 0 := by
      simp [stands] at hs
      exact hs.2.2
    have hl := lays_len l [] (by simp) (fun t ht => ih t ht (badL_mem l hb'.2 t ht))
    have hsz : sizeB (.mk c n k b l) = 1 + (lenB (sizeL b.length l)).length + sizeL b.length l := by simp [sizeB]
    have hly : layB (.mk c n k b l) = match layL [] l with
      | none => none
      | some its => if 65536 < (lenB (b.length + its.length)).length + 1 + (b.length + its.length) then none else some (n8 ((c * 64 + n + (if k then 32 else 0) : Nat) : Int) :: lenB (b.length + its.length) ++ b ++ its) := by
      unfold layB
      rfl
    have hcase : ∀ its, layL [] l = some its → sizeL b.length l = b.length + its.length := fun its h => by
      cases k
      · have h0 : l = [] := List.length_eq_zero_iff.1 (by simpa using hz)
        subst h0
        unfold layL at h
        injection h with h
        subst h
        simp [sizeL]
      · have h0 : b = [] := List.length_eq_zero_iff.1 (by simpa using hz)
        subst h0
        have := (hl.1 its h).1
        simpa using this
    unfold LenOK
    rw [hsz, hly]
    cases hx : layL [] l with
    | none =>
      refine ⟨fun xs h => (by cases h), fun _ => ?_⟩
      have h1 := hl.2 hx
      have h2 : 65536 < sizeL b.length l := by
        cases k
        · have h0 : l = [] := List.length_eq_zero_iff.1 (by simpa using hz)
          subst h0
          simp [sizeL] at h1
        · have h0 : b = [] := List.length_eq_zero_iff.1 (by simpa using hz)
          subst h0
          simpa using h1
      omega
    | some its =>
      rw [hcase its hx]
      dsimp only
      by_cases hg : 65536 < (lenB (b.length + its.length)).length + 1 + (b.length + its.length)
      · rw [if_pos hg]
        refine ⟨fun xs h => (by cases h), fun _ => by omega⟩
      · rw [if_neg hg]
        refine ⟨fun xs h => ?_, fun h => (by cases h)⟩
        injection h with h
        subst h
        simp only [List.length_append, List.length_cons]
        omega

/-- Why there are no bytes: as the document's Check tells. -/
theorem check_enc (t : BV) : (∀ no, encB t = .inl no → checkB t = no ∧ ¬ no = 0) ∧ (∀ xs, encB t = .inr xs → checkB t = 0) := by
  unfold encB checkB
  cases hb : badB t
  · cases hd : deepB 1 t
    · have hl := lay_len t hb
      cases hx : layB t with
      | none =>
        have := hl.2 hx
        simp [this]
      | some xs =>
        have h9 := hl.1 xs hx
        have : ¬ 65536 < sizeB t := by omega
        simp [this]
    · simp
  · simp

end Go.Proofs.Ytnengckecooohaa
/- ber: the document's Bytes of any tree, as words; what Encode lays is that. -/
namespace Go.Proofs.Ytnengckecooohaa
open Go.RowKit Go.Shelf
set_option linter.unusedVariables false
set_option linter.unusedSimpArgs false
set_option maxRecDepth 100000

mutual
/-- The document's Bytes. -/
def bytesB : BV → List UInt8
  | .mk c n k b l => n8 (64 * (c : Int) + (n : Int) + (if k then 32 else 0)) :: (lenB (if k then bytesL l else b).length ++ (if k then bytesL l else b))
def bytesL : List BV → List UInt8
  | [] => []
  | t :: r => bytesB t ++ bytesL r
end
theorem lays_bytes : ∀ (l : List BV) (acc its : List UInt8), (∀ t ∈ l, ∀ xs, layB t = some xs → bytesB t = xs) → layL acc l = some its → its = acc ++ bytesL l
  | [], acc, its, _, h => by
    unfold layL at h
    injection h with h
    subst h
    simp [bytesL]
  | t :: r, acc, its, hi, h => by
    unfold layL at h
    cases hx : layB t with
    | none => rw [hx] at h; cases h
    | some x =>
      rw [hx] at h
      dsimp only at h
      split at h
      · cases h
      · have h1 := lays_bytes r (acc ++ x) its (fun t ht => hi t (by simp [ht])) h
        rw [h1, bytesL, hi t (by simp) x hx, List.append_assoc]
theorem lay_bytes (t : BV) : badB t = false → ∀ xs, layB t = some xs → bytesB t = xs := by
  induction t using BV.ind with
  | h c n k b l ih =>
    intro hb xs h
    have hb' : (!stands (.mk c n k b l) || badL l) = false := hb
    rw [Bool.or_eq_false_iff] at hb'
    have hs : stands (.mk c n k b l) = true := by simpa using hb'.1
    have hz : (if k then b.length else l.length) = 0 := by
      simp [stands] at hs
      exact hs.2.2
    unfold layB at h
    cases hx : layL [] l with
    | none => rw [hx] at h; cases h
    | some its =>
      have h1 := lays_bytes l [] its (fun t ht => ih t ht (badL_mem l hb'.2 t ht)) hx
      rw [List.nil_append] at h1
      subst h1
      rw [hx] at h
      dsimp only at h
      split at h
      · cases h
      · injection h with h
        subst h
        cases k
        · have h0 : l = [] := List.length_eq_zero_iff.1 (by simpa using hz)
          subst h0
          have e : ((c * 64 + n + 0 : Nat) : Int) = 64 * (c : Int) + (n : Int) + 0 := by omega
          simp only [bytesB, bytesL, Bool.false_eq_true, if_false, List.length_nil, Nat.add_zero, List.append_nil, List.cons_append] at e ⊢
          rw [← e]
        · have h0 : b = [] := List.length_eq_zero_iff.1 (by simpa using hz)
          subst h0
          have e : ((c * 64 + n + 32 : Nat) : Int) = 64 * (c : Int) + (n : Int) + 32 := by omega
          simp only [bytesB, if_true, List.length_nil, Nat.zero_add, List.append_nil, List.cons_append]
          rw [← e]
/-- What Encode answers is the document's Bytes. -/
theorem enc_bytes {t : BV} {xs : List UInt8} (h : encB t = .inr xs) : bytesB t = xs := by
  obtain ⟨h1, _, h3, _⟩ := encB_yes h
  exact lay_bytes t h1 xs h3

end Go.Proofs.Ytnengckecooohaa
/- ber: the program's Check. -/
namespace Go.Proofs.Ytnengckecooohaa
open Go.RowKit Go.Shelf
set_option linter.unusedVariables false
set_option linter.unusedSimpArgs false
set_option maxRecDepth 100000

/-- Check answers as the document's Check. -/
theorem check_is (t : BV) (h : BH) (w : World) (ht : BerAt w t h) (hn : nodesB t ≤ 1000000000) (hm : maxB t ≤ 1000000000) : Calls Try.prog 14 #[h.val] w fun e w' => e = .returned (.int .i64 (checkB t)) ∧ Keeps [] w w' := by
  have HE := Lib.hid (fun X (hk : Keeps [] w X) => encode_is t h X (BerAt.grow hk t h ht) hn hm)
  obtain ⟨c, n, k, A, la, ca, B, lb, cb⟩ := h
  clear ht hn hm
  obtain ⟨W0, hW0⟩ : ∃ W0, w.alloc (.cells #[.int .u8 (c : Int), .int .u8 (n : Int), .bool k, .slice A la ca, .slice B lb cb] 25) = W0 := ⟨_, rfl⟩
  have hk0 : Keeps [] w W0 := by rw [← hW0]; exact (Keeps.refl [] w).alloc _
  have hr0 : W0.heap[w.heap.size]? = some (.cells #[.int .u8 (c : Int), .int .u8 (n : Int), .bool k, .slice A la ca, .slice B lb cb] 25 (0, 0)) := by rw [← hW0]; exact heap_new8 w _
  obtain ⟨⟨y0, y1, y2, y3, y4⟩, _⟩ := five_facts hr0
  have HK0 := Lib.hid hk0
  clear hr0 hk0
  unfold BH.val at *
  go_enter Try.func14, Try.ntmps14
  go_wp2_with fail
  refine (HE.out _ HK0.out).mono ?_
  rintro e w1 ⟨⟨xs, D, d, he, rfl, _⟩ | ⟨no, he, rfl⟩, hk1⟩
  · have hc := (check_enc t).2 xs he
    have HK1 := Lib.hid (HK0.out.trans' hk1)
    have HC := Lib.hid hc
    clear hk1 he hc
    go_wp2_with fail
    go_ret
    exact ⟨by rw [HC.out]; rfl, HK1.out⟩
  · have hc := ((check_enc t).1 no he).1
    have HK1 := Lib.hid (HK0.out.trans' hk1)
    have HC := Lib.hid hc
    clear hk1 he hc
    go_wp2_with fail
    go_ret
    exact ⟨by rw [HC.out]; rfl, HK1.out⟩

end Go.Proofs.Ytnengckecooohaa
/- ber: the document's Bytes of any tree, walked. -/
namespace Go.Proofs.Ytnengckecooohaa
open Go.RowKit Go.Shelf
set_option linter.unusedVariables false
set_option linter.unusedSimpArgs false
set_option maxRecDepth 100000

theorem src_two9 (w : World) (q p : Int) (hp : 0 ≤ p ∧ p < 256) : Src ((w.alloc (.cells #[.int .u8 q] 5)).alloc (.cells #[.int .u8 p] 5)) (some ⟨w.heap.size + 1, 0, none⟩) 1 [bv (n8 p)] := by
  have h := src_one8 (w.alloc (.cells #[.int .u8 q] 5)) p hp
  rw [World.size_alloc] at h
  exact h
theorem bytesL_mem : ∀ (l : List BV) (t : BV), t ∈ l → (bytesB t).length ≤ (bytesL l).length
  | [], t, h => by cases h
  | x :: r, t, h => by
    simp only [bytesL, List.length_append]
    rcases List.mem_cons.1 h with rfl | h
    · omega
    · have := bytesL_mem r t h; omega

/-- The contract of Bytes. -/
def BytesQ (t : BV) (w : World) (e : Ending) (w' : World) : Prop :=
  ∃ D d, e = .returned (.slice D (bytesB t).length d) ∧ BytesAt w' (.slice D (bytesB t).length d) (bytesB t) ∧ Keeps [] w w'

set_option maxHeartbeats 4000000 in
theorem rbytes_is : ∀ (t : BV) (h : BH) (w : World), badB t = false → (bytesB t).length ≤ 1000000000 → BerAt w t h → Calls Try.prog 16 #[h.val] w (BytesQ t w) := by
  intro t
  induction t using BV.ind with
  | h c n k b l ih =>
    intro h w hbad hlen ht
    obtain ⟨iu, hiu, hzu0, hzu1, hzu2⟩ := info_parts u8_info
    have IH := Lib.hid ih
    obtain ⟨rfl, rfl, rfl, h4, h5, h6, h7, h8, h9, h10, h11⟩ := ht
    obtain ⟨c, n, k, A, la, ca, B, lb, cb⟩ := h
    have hb' : (!stands (.mk c n k b l) || badL l) = false := hbad
    rw [Bool.or_eq_false_iff] at hb'
    have hst : stands (.mk c n k b l) = true := by simpa using hb'.1
    have hcn : c ≤ 3 ∧ n < 31 := by
      simp only [stands, Bool.and_eq_true, decide_eq_true_eq] at hst
      exact ⟨hst.1, hst.2.1⟩
    have hl : l.length = lb := h8
    have hb6 : b.length = la := h6
    have hlb : lb ≤ 9223372036854775807 := Nat.le_trans h9 h10
    have HBL := Lib.hid (badL_mem l hb'.2)
    cases k
    · have e0 : bytesB (.mk c n false b l) = n8 (64 * (c : Int) + (n : Int)) :: lenB la ++ b := by
        simp only [bytesB, Bool.false_eq_true, if_false]
        rw [hb6, Int.add_zero]
        rfl
      unfold BytesQ
      rw [e0] at hlen ⊢
      exact rbytes_flat c n A B la ca lb cb b w hcn.1 (by omega) hb6 (by simp at hlen; omega) h7
    · have e0 : bytesB (.mk c n true b l) = n8 (64 * (c : Int) + (n : Int) + 32) :: lenB (bytesL l).length ++ bytesL l := by
        simp only [bytesB, if_true]
        rfl
      unfold BytesQ
      rw [e0] at hlen ⊢
      have hbl : (bytesL l).length ≤ 1000000000 := by simp at hlen; omega
      have HI := Lib.hid h11
      have HL := Lib.hid hl
      obtain ⟨W0, hW0⟩ : ∃ W0, w.alloc (.cells #[.int .u8 (c : Int), .int .u8 (n : Int), .bool true, .slice A la ca, .slice B lb cb] 25) = W0 := ⟨_, rfl⟩
      have HK : Hid (Keeps [] w W0) := by rw [← hW0]; exact (Keeps.refl [] w).alloc _
      have hr0 : W0.heap[w.heap.size]? = some (.cells #[.int .u8 (c : Int), .int .u8 (n : Int), .bool true, .slice A la ca, .slice B lb cb] 25 (0, 0)) := by rw [← hW0]; exact heap_new8 w _
      have HF := Lib.hid (fun X (hk : Keeps [] W0 X) => (five_facts (blk_keep hr0 hk (by simp))).1)
      obtain ⟨y0, y1, y2, y3, y4⟩ := HF.out W0 (Keeps.refl [] W0)
      have htag : 0 ≤ 64 * (c : Int) + (n : Int) + 32 ∧ 64 * (c : Int) + (n : Int) + 32 < 256 := by omega
      obtain ⟨its, hits⟩ : ∃ its, bytesL l = its := ⟨_, rfl⟩
      have HIL := Lib.hid (fun t ht => bytesL_mem l t ht)
      rw [hits] at hbl HIL ⊢
      have HIT := Lib.hid hits
      obtain ⟨bs, hbs⟩ : ∃ bs, n8 (64 * (c : Int) + (n : Int) + 32) :: lenB its.length ++ its = bs := ⟨_, rfl⟩
      rw [hbs]
      obtain ⟨bl, hbn⟩ : ∃ bl, bs.length = bl := ⟨_, rfl⟩
      rw [hbn]
      have HBS := Lib.hid hbs
      have HBN := Lib.hid hbn
      clear hbs hbn
      clear h4 h5 h6 h7 h8 h9 h10 h11 hl hb6 hr0 ih hits hlen e0 hst hb' hbad
      unfold BH.val
      go_enter Try.func16, Try.ntmps16
      go_wp2_with fail
      go_loopw [3, 5] (fun v i wr => ∃ (j : Nat) (acc : List UInt8) (VA : Option Addr) (vc : Nat), v = .slice VA acc.length vc ∧ i = .int .i64 (j : Int) ∧ j ≤ lb ∧ Hid (its = acc ++ bytesL (l.drop j)) ∧ Hid (wr.ownsRow W0.heap.size 5 1 (.slice VA acc.length vc) acc.length (acc.map bv)) ∧ Hid (Keeps [] W0 wr)) (fun _ i _ => lb - (intOf i).toNat)
      case atStart => exact ⟨0, [], none, 0, rfl, rfl, Nat.zero_le _, HIT.out.symm, World.ownsRow_nil _ _ _ _, Keeps.refl _ _⟩
      case round =>
        obtain ⟨j, acc, VA, vc, rfl, rfl, hj, HD, HOW, HKR⟩ := hrel
        have hal : acc.length ≤ its.length := by rw [HD.out]; simp
        by_cases hlt : j < lb
        · have hx : l[j]? = some (l[j]'(by have := HL.out; omega)) := List.getElem?_eq_getElem _
          obtain ⟨b1, o1, hh, rfl, hc, hat⟩ := (ItemsAt.grow (HK.out.trans' HKR.out) B 0 l HI.out).at_ j _ hx
          rw [Nat.zero_add] at hc
          obtain ⟨g0, g1, g2, g3, g4⟩ := five_at hc
          have hmem : (l[j]'(by have := HL.out; omega)) ∈ l := List.getElem_mem _
          have hdr : l.drop j = l[j]'(by have := HL.out; omega) :: l.drop (j + 1) := List.drop_eq_getElem_cons _
          rw [hdr] at HD
          generalize hxx : l[j]'(by have := HL.out; omega) = x at *
          obtain ⟨c', n', k', A', la', ca', B', lb', cb'⟩ := hh
          have hxl := HIL.out x hmem
          have HREC : Hid (∀ X, Keeps [] wr X → Calls Try.prog 16 #[.agg #[.int .u8 (c' : Int), .int .u8 (n' : Int), .bool k', .slice A' la' ca', .slice B' lb' cb']] X (BytesQ x X)) := fun X hk =>
            IH.out x hmem ⟨c', n', k', A', la', ca', B', lb', cb'⟩ X (HBL.out x hmem) (by omega) (BerAt.grow hk x _ hat)
          obtain ⟨z0, z1, z2, z3, z4⟩ := HF.out wr HKR.out
          obtain ⟨xs, hxs⟩ : ∃ xs, bytesB x = xs := ⟨_, rfl⟩
          have HXS := Lib.hid hxs
          have HD2 : Hid (its = acc ++ xs ++ bytesL (l.drop (j + 1))) := by
            have h9 := HD.out
            rw [show bytesL (x :: l.drop (j + 1)) = bytesB x ++ bytesL (l.drop (j + 1)) from by simp [bytesL], hxs] at h9
            show _ = _
            rw [h9, List.append_assoc]
          unfold BytesQ at HREC
          rw [hxs] at HREC hxl
          clear hx hat hc hxx hdr hxs
          go_wp2_with fail
          refine (HREC.out _ (Keeps.refl [] wr)).mono ?_
          rintro e w2 ⟨XA, xd, rfl, hbx, hk2⟩
          have HBX := Lib.hid hbx
          have HOW2 := Lib.hid (own_keep HOW.out hk2 (by simp))
          have HK2 := Lib.hid (HKR.out.trans' hk2)
          have hz2 := HK2.out.size
          clear hk2 hbx
          generalize hxn : xs.length = xn at *
          generalize han : acc.length = an at *
          go_wp2_with (at_builtin; refine wpList_append_opt rfl (.tmp 33) (.tmp 39) 22 rfl W0.heap.size 5 iu _ 1 1 Try.underlying22 hiu hzu0 hzu1 hzu2 rfl (by decide) (.slice VA an vc) an (acc.map bv) rfl HOW2.out XA xn xd (xs.map bv) rfl (by simp [hxn]) (Src.of_bytes HBX.out) bvs_one (by unfold maxLen; omega) (by omega) hz2 ?_; intro v3 w3 ho hg hs; rw [← List.map_append] at ho; obtain ⟨VB, vd, hv⟩ := own_slice ho; subst hv; have HO3 := Lib.hid ho; have HK3 := Lib.hid (keeps_own8 HOW2.out HK2.out hg); clear ho hg hs)
          go_roundw
          case rel => exact ⟨j + 1, acc ++ xs, VB, vd, by rw [List.length_append, han, hxn], by go_num, by omega, HD2.out, by rw [List.length_append, han, hxn]; exact HO3.out, HK3.out⟩
          case measure => simp [intOf]; omega
        · obtain rfl : j = lb := by omega
          have hac : acc = its := by
            have h9 := HD.out
            rw [List.drop_of_length_le (by have := HL.out; omega)] at h9
            simp [bytesL] at h9
            exact h9.symm
          subst hac
          obtain ⟨z0, z1, z2, z3, z4⟩ := HF.out wr HKR.out
          have HBY := Lib.hid (fun X (hk : Keeps [] wr X) => Src.of_bytes ((BytesAt.of_own HOW.out).grow hk))
          have HKW := Lib.hid (HK.out.trans' HKR.out)
          clear y0 y1 y2 y3 y4 hal HD HOW HIT HIL
          obtain ⟨an, han⟩ : ∃ an, acc.length = an := ⟨_, rfl⟩
          rw [han] at HBY hbl ⊢
          have HAN := Lib.hid han
          clear han
          by_cases hsm : an < 128
          · go_wp2_with first
              | (at_builtin; refine wpList_append_opt rfl (.tmp 48) (.tmp 51) 22 rfl wr.heap.size 5 iu _ 1 1 Try.underlying22 hiu hzu0 hzu1 hzu2 rfl (by decide) (.slice (some ⟨wr.heap.size, 0, none⟩) 1 1) 1 ([n8 (64 * (c : Int) + (n : Int) + 32)].map bv) rfl ((own_one8 wr wr.heap.size _ htag (Nat.le_refl _)).alloc _) (some ⟨wr.heap.size + 1, 0, none⟩) 1 1 [bv (n8 (an : Int))] rfl rfl (src_two9 wr _ _ (by omega)) (by simp [bv_one]) (by unfold maxLen; omega) (by omega) (by simp; omega) ?_; intro v1 w1 ho1 hg1 hs1; obtain ⟨A1, c1, hv1⟩ := own_slice ho1; subst hv1; have HG1 := Lib.hid (keeps_own8 ((own_one8 wr wr.heap.size _ htag (Nat.le_refl _)).alloc _) (((Keeps.refl [] wr).alloc _).alloc _) hg1); have HO1 : Hid (w1.ownsRow wr.heap.size 5 1 (.slice A1 2 c1) 2 ([n8 (64 * (c : Int) + (n : Int) + 32), n8 (an : Int)].map bv)) := ho1; have hsz1 := HG1.out.size; clear ho1 hg1 hs1)
              | (at_builtin; refine wpList_append_opt rfl (.tmp 82) (.tmp 83) 22 rfl wr.heap.size 5 iu _ 1 1 Try.underlying22 hiu hzu0 hzu1 hzu2 rfl (by decide) (.slice A1 2 c1) 2 ([n8 (64 * (c : Int) + (n : Int) + 32), n8 (an : Int)].map bv) rfl HO1.out VA an vc (acc.map bv) rfl (by rw [List.length_map, HAN.out]; omega) (HBY.out w1 HG1.out) bvs_one (by unfold maxLen; omega) (by omega) (by omega) ?_; intro v2 w2 ho2 hg2 hs2; obtain ⟨A2, c2, hv2⟩ := own_slice ho2; subst hv2; have HG2 := Lib.hid (keeps_own8 HO1.out HG1.out hg2); rw [← List.map_append] at ho2; have HO2 := Lib.hid ho2; clear ho2 hg2 hs2)
              | fail
            go_ret
            have h9 := HO2.out
            have hlen : ([n8 (64 * (c : Int) + (n : Int) + 32), n8 (an : Int)] ++ acc).length = 2 + an := by simp [HAN.out]; try omega
            have hbs := HBS.out
            rw [HAN.out, lenB_small hsm] at hbs
            have e1 : bs = [n8 (64 * (c : Int) + (n : Int) + 32), n8 (an : Int)] ++ acc := hbs.symm
            have e2 : bl = 2 + an := by rw [← HBN.out, e1]; exact hlen
            rw [e1, e2]
            refine ⟨_, _, rfl, ?_, HKW.out.trans' HG2.out⟩
            rw [← hlen] at h9 ⊢
            exact BytesAt.of_own h9
          · obtain ⟨V, hV⟩ : ∃ V : World, V = wr := ⟨_, rfl⟩
            subst hV
            have hk8 : (natL an).length ≤ 8 := natL_len8 (by omega)
            have HM : Hid (∀ X, Calls Try.prog 42 #[.int .i64 (an : Int)] X fun e w' => e = .returned (.int .i64 (((natL an).length : Int) + 1)) ∧ X = w') := fun X => by
              have h9 := many_is an X (by omega)
              rw [lenB_many (by omega), if_neg (by omega), show ((1 + (natL an).length : Nat) : Int) = ((natL an).length : Int) + 1 by omega] at h9
              exact h9
            have HLB : Hid (lenB an = n8 (128 + ((natL an).length : Int)) :: (natL an).reverse) := by
              show _ = _
              rw [lenB_big (n := an) (by omega) (by omega), show ((128 + (natL an).length : Nat) : Int) = 128 + ((natL an).length : Int) by omega]
            have HG := Lib.hid (fun i h => natL_get i an h)
            generalize hnl : natL an = nl at *
            have HKN : Hid (∀ j, nl.reverse.take (j + 1) = nl.reverse.take j ++ (nl.reverse[j]?).toList) := fun j => List.take_add_one
            have HRV : Hid (∀ j, j < nl.length → nl.reverse[j]? = nl[nl.length - 1 - j]?) := fun j h => List.getElem?_reverse h
            have HTK : Hid (nl.reverse.take nl.length = nl.reverse) := List.take_of_length_le (by simp)
            have HLR : Hid ((nl.reverse).length = nl.length) := List.length_reverse
            clear hnl
            generalize hkk : nl.length = kk at *
            clear hkk
            go_wp2_with fail
            refine (HM.out _).mono ?_
            rintro e w1 ⟨rfl, rfl⟩
            go_wp2_with (at_builtin; refine wpList_append_opt rfl (.tmp 56) (.tmp 60) 22 rfl V.heap.size 5 iu _ 1 1 Try.underlying22 hiu hzu0 hzu1 hzu2 rfl (by decide) (.slice (some ⟨V.heap.size, 0, none⟩) 1 1) 1 ([n8 (64 * (c : Int) + (n : Int) + 32)].map bv) rfl ((own_one8 V V.heap.size _ htag (Nat.le_refl _)).alloc _) (some ⟨V.heap.size + 1, 0, none⟩) 1 1 [bv (n8 (128 + (kk : Int)))] rfl rfl (src_two9 V _ _ (by omega)) (by simp [bv_one]) (by unfold maxLen; omega) (by omega) (by simp; omega) ?_; intro v1 w1 ho1 hg1 hs1; obtain ⟨A1, c1, hv1⟩ := own_slice ho1; subst hv1; have HG1 := Lib.hid (keeps_own8 ((own_one8 V V.heap.size _ htag (Nat.le_refl _)).alloc _) (((Keeps.refl [] V).alloc _).alloc _) hg1); have HO1 : Hid (w1.ownsRow V.heap.size 5 1 (.slice A1 2 c1) 2 ([n8 (64 * (c : Int) + (n : Int) + 32), n8 (128 + (kk : Int))].map bv)) := ho1; clear ho1 hg1 hs1)
            go_loopw [6, 9] (fun o i wr => ∃ (j : Nat) (A1 : Option Addr) (c1 : Nat), o = .slice A1 (2 + j) c1 ∧ i = .int .i64 ((kk : Int) - 1 - (j : Int)) ∧ j ≤ kk ∧ Hid (wr.ownsRow V.heap.size 5 1 (.slice A1 (2 + j) c1) (2 + j) ((n8 (64 * (c : Int) + (n : Int) + 32) :: n8 (128 + (kk : Int)) :: nl.reverse.take j).map bv)) ∧ Hid (Keeps [] V wr)) (fun _ i _ => (intOf i + 1).toNat)
            case atStart => exact ⟨0, A1, c1, rfl, by go_num, Nat.zero_le _, HO1.out, HG1.out⟩
            case round =>
              obtain ⟨j, A2, c2, rfl, rfl, hj, HO2, HK2⟩ := hrel
              by_cases hjk : j < kk
              · go_wp2_with fail
                obtain ⟨wo, rfl⟩ : ∃ wo : World, wo = wr := ⟨_, rfl⟩
                go_loopw [10, 11] (fun a q wq => ∃ (m k : Nat), a = .int .i64 (m : Int) ∧ q = .int .i64 (k : Int) ∧ k + j + 1 ≤ kk ∧ m ≤ an ∧ Hid (m = an / 256 ^ k) ∧ wq = wo) (fun _ q _ => kk - (intOf q).toNat)
                case atStart => exact ⟨an, 0, rfl, rfl, by omega, Nat.le_refl _, by simp [Hid], rfl⟩
                case round =>
                  obtain ⟨m, k, rfl, rfl, hk, hm, HME, rfl⟩ := hrel
                  by_cases hkj : k + j + 1 < kk
                  · have HME2 : Hid (m / 256 = an / 256 ^ (k + 1)) := by
                      show _ = _
                      rw [HME.out, Nat.div_div_eq_div_mul, Nat.pow_succ]
                    have hm2 : m / 256 ≤ an := Nat.le_trans (Nat.div_le_self _ _) hm
                    go_wp2_with fail
                    go_roundw
                    case rel => exact ⟨m / 256, k + 1, by go_num, by go_num, by omega, hm2, HME2, trivial⟩
                    case measure => simp [intOf]; omega
                  · have hkq : k = kk - 1 - j := by omega
                    have hnx : nl.reverse[j]? = some (n8 (m : Int)) := by
                      rw [HRV.out j hjk, HG.out _ (by omega), HME.out, hkq]
                    have HT : Hid (nl.reverse.take (j + 1) = nl.reverse.take j ++ [n8 (m : Int)]) := by
                      show _ = _
                      rw [HKN.out j, hnx]
                      rfl
                    have hsz := HK2.out.size
                    clear hnx
                    go_wp2_with (at_builtin; refine wpList_append_opt rfl (.tmp 76) (.tmp 80) 22 rfl V.heap.size 5 iu _ 1 1 Try.underlying22 hiu hzu0 hzu1 hzu2 rfl (by decide) (.slice A2 (2 + j) c2) (2 + j) ((n8 (64 * (c : Int) + (n : Int) + 32) :: n8 (128 + (kk : Int)) :: nl.reverse.take j).map bv) rfl (HO2.out.alloc _) (some ⟨wr.heap.size, 0, none⟩) 1 1 [bv (n8 (m : Int))] rfl rfl (src_n8 wr _) (by simp [bv_one]) (by unfold maxLen; omega) (by omega) (by simp; omega) ?_; intro v3 w3 ho3 hg3 hs3; obtain ⟨A3, c3, hv3⟩ := own_slice ho3; subst hv3; have HG3 := Lib.hid (keeps_own8 (HO2.out.alloc _) (HK2.out.alloc _) hg3); have HO3 : Hid (w3.ownsRow V.heap.size 5 1 (.slice A3 (2 + j + 1) c3) (2 + j + 1) ((n8 (64 * (c : Int) + (n : Int) + 32) :: n8 (128 + (kk : Int)) :: nl.reverse.take (j + 1)).map bv)) := (by rw [HT.out]; have h9 := ho3; rw [show [bv (n8 (m : Int))] = [n8 (m : Int)].map bv from rfl, ← List.map_append] at h9; exact h9); clear ho3 hg3 hs3)
                    go_roundw
                    case rel => exact ⟨j + 1, A3, c3, rfl, by go_num, by omega, HO3.out, HG3.out⟩
                    case measure => simp [intOf]; omega
              · obtain rfl : j = kk := by omega
                rw [HTK.out] at HO2
                have hsz := HK2.out.size
                go_wp2_with (at_builtin; refine wpList_append_opt rfl (.tmp 82) (.tmp 83) 22 rfl V.heap.size 5 iu _ 1 1 Try.underlying22 hiu hzu0 hzu1 hzu2 rfl (by decide) (.slice A2 (2 + j) c2) (2 + j) ((n8 (64 * (c : Int) + (n : Int) + 32) :: n8 (128 + (j : Int)) :: nl.reverse).map bv) rfl HO2.out VA an vc (acc.map bv) rfl (by rw [List.length_map, HAN.out]; omega) (HBY.out wr HK2.out) bvs_one (by unfold maxLen; omega) (by omega) (by omega) ?_; intro v4 w4 ho4 hg4 hs4; obtain ⟨A4, c4, hv4⟩ := own_slice ho4; subst hv4; have HG4 := Lib.hid (keeps_own8 HO2.out HK2.out hg4); rw [← List.map_append] at ho4; have HO4 := Lib.hid ho4; clear ho4 hg4 hs4)
                go_ret
                have h9 := HO4.out
                have hlen : ((n8 (64 * (c : Int) + (n : Int) + 32) :: n8 (128 + (j : Int)) :: nl.reverse) ++ acc).length = 2 + j + an := by have h1 := HAN.out; have h2 := HLR.out; simp at h2 ⊢; omega
                have hbs := HBS.out
                rw [HAN.out, HLB.out] at hbs
                have e1 : bs = (n8 (64 * (c : Int) + (n : Int) + 32) :: n8 (128 + (j : Int)) :: nl.reverse) ++ acc := hbs.symm
                have e2 : bl = 2 + j + an := by rw [← HBN.out, e1]; exact hlen
                rw [e1, e2]
                refine ⟨_, _, rfl, ?_, HKW.out.trans' HG4.out⟩
                rw [← hlen] at h9 ⊢
                exact BytesAt.of_own h9

end Go.Proofs.Ytnengckecooohaa
