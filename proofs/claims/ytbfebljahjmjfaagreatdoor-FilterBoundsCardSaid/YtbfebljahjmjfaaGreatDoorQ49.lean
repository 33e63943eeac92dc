import Derived.Test.YtbfebljahjmjfaaGreatDoorQ48
import Derived.Test.YtbfebljahjmjfaaGreatDoorQ47
import Derived.Test.YtbfebljahjmjfaaGreatDoorQ05
import Derived.BigQuiet
import Derived.Deep.RegionHeld3
import Derived.Deep.DeepCutAuto
/- filter: the document's one, walked. -/
namespace Go.Proofs.YtbfebljahjmjfaaGreatDoor
open Go.RowKit Go.Shelf
set_option linter.unusedVariables false
set_option linter.unusedSimpArgs false
set_option maxRecDepth 100000

/-- Which of the first k - 1 signs a byte is. -/
def kdZ (c : UInt8) (k : Nat) : Int := if c = 38 ∧ 1 < k then 1 else if c = 124 ∧ 2 < k then 2 else if c = 33 ∧ 3 < k then 3 else 0
theorem leafR_suf {U s v R : Txt} {k : Nat} (h : leafR U = some (k, s, v, R)) : R <:+ U := by
 unfold leafR at h
 split at h
 ·cases h
 ·split at h
  ·cases h
  ·rename_i n hn v2 R2 hv
   obtain ⟨_, q, hq⟩ := valR_tail _ _ _ _ hv
   have h2 : R2 <:+ U := List.IsSuffix.trans ⟨q, hq.symm⟩ (List.drop_suffix _ _)
   split at h <;> (injection h with h; injection h with h1 h; injection h with h3 h; injection h with h4 h; subst h)
   ·exact (List.drop_suffix _ _).trans h2
   ·exact h2
theorem shutR_suf {t x : FV} {R R2 : Txt} (h : shutR t R = some (x, R2)) : R2 <:+ R := by
 unfold shutR at h
 split at h
 ·injection h with h; injection h with h1 h2; subst h1 h2; exact List.drop_suffix _ _
 ·cases h
mutual
theorem oneR_suf : ∀ (f d : Nat) (T R : Txt) (t : FV), oneR f d T = some (t, R) → R <:+ T
 | 0, _, _, _, _, h => by simp [oneR] at h
 | f + 1, d, T, R, t, h => by
  unfold oneR at h
  split at h
  ·split at h
   ·split at h
    ·cases h
    ·rename_i hl
     exact ((shutR_suf h).trans (leafR_suf hl)).trans (List.drop_suffix _ _)
   ·split at h
    ·cases h
    ·rename_i hl
     exact ((shutR_suf h).trans (manyR_suf f d 0 _ _ _ hl)).trans (List.drop_suffix _ _)
  ·cases h
theorem manyR_suf : ∀ (f d m : Nat) (T R : Txt) (l : List FV), manyR f d m T = some (l, R) → R <:+ T
 | 0, _, _, _, _, _, h => by simp [manyR] at h
 | f + 1, d, m, T, R, l, h => by
  unfold manyR at h
  split at h
  ·split at h
   ·cases h
   ·rename_i x R1 ho
    have h1 := oneR_suf f (d + 1) T R1 x ho
    split at h
    ·cases h
    ·split at h
     ·cases h
     ·rename_i l2 R2 hm
      have h2 := manyR_suf f d (m + 1) R1 R2 l2 hm
      injection h with h; injection h with h3 h4; subst h4
      exact h2.trans h1
  ·injection h with h; injection h with h3 h4; subst h4; exact List.suffix_refl _
end
theorem suf_drop {T R : Txt} (h : R <:+ T) : T.drop (T.length - R.length) = R := by
 obtain ⟨p, rfl⟩ := h
 simp
theorem str_cut8 (T : List UInt8) (i j : Nat) (h : i ≤ j) (hj : j ≤ T.length) (W : World) : (Instr.slice 9 (.string ⟨T.toArray⟩) (some (.int .i64 (i : Int))) (some (.int .i64 (j : Int))) none).run Tryz.prog W = .ok (.string ⟨((T.drop i).take (j - i)).toArray⟩) W := by
 rw [run_slice_string W 9 ⟨T.toArray⟩ .i64 .i64 (i : Int) (j : Int) Tryz.underlying9 (by omega) (by omega) (by show (j : Int) ≤ (T.length : Int); omega)]
 rw [show ((i : Int)).toNat = i by omega, show ((j : Int)).toNat = j by omega, ByteArray.extract_mk]
theorem valR_vlen : ∀ (f : Nat) (T v R : Txt), valR f T = some (v, R) → v.length ≤ T.length
 | f, [], v, R, h => by cases f <;> simp [valR] at h
 | 0, c :: l, v, R, h => by simp [valR] at h
 | f + 1, c :: l, v, R, h => by
  unfold valR at h
  split at h
  ·injection h with h; injection h with h1 h2; subst h1; simp
  ·split at h
   ·cases h
   ·split at h
    ·split at h
     ·split at h
      ·obtain ⟨p, hp, h⟩ := Option.map_eq_some_iff.1 h
       injection h with h1 h2
       subst h1
       have := valR_vlen f _ p.1 p.2 hp
       simp only [List.length_cons]
       omega
      ·cases h
     ·cases h
    ·obtain ⟨p, hp, h⟩ := Option.map_eq_some_iff.1 h
     injection h with h1 h2
     subst h1
     have := valR_vlen f _ p.1 p.2 hp
     simp only [List.length_cons]
     omega
theorem one_ne {a b : UInt8} (h : ¬ a = b) : ((⟨#[a]⟩ : ByteArray) == ⟨#[b]⟩) = false ∧ ((⟨#[a]⟩ : ByteArray) != ⟨#[b]⟩) = true ∧ ((⟨#[a]⟩ : ByteArray).toList == (⟨#[b]⟩ : ByteArray).toList) = false := by
 have h9 := tx_beq [a] [b] false (by simpa using h)
 exact ⟨h9.1, h9.2.1, h9.2.2⟩
/-- What the last question finds: the filter, not shut yet. -/
structure EndS (T : Txt) (i d : Nat) (w wx : World) (p : Nat) (k : Int) (A : Option Addr) (j c : Nat) (s v : Txt) (l : List FV) : Prop where
 box : wx.heap[w.heap.size + 1]? = some (.cells #[.int .i64 k, .slice A j c, .string ⟨s.toArray⟩, .string ⟨v.toArray⟩] 26 (0, 0))
 res : wx.heap[w.heap.size]? = some (.cells #[.int .i64 0, .slice none 0 0, .string ⟨#[]⟩, .string ⟨#[]⟩] 26 (0, 0))
 keep : Keeps [] w wx
 word : oneR (2 * (T.drop i).length + 2) d (T.drop i) = shutR (.mk k l s v) (T.drop p)
 fin : ∀ w3, Keeps [w.heap.size] wx w3 → ∀ (E : List Nat) X, (∀ x ∈ E, x < w.heap.size) → Keeps E w3 X → FilAt X (.mk k l s v) ⟨k, A, j, c, s, v⟩
 sl : s.length ≤ 1000000000
 vl : v.length ≤ 1000000000
 ll : l.length = j
theorem EndS.no {T : Txt} {i d p j c : Nat} {w wx : World} {k : Int} {A : Option Addr} {s v : Txt} {l : List FV} (H : EndS T i d w wx p k A j c s v l) (h : aloneH k j s v = false ∨ begP [41] (T.drop p) = false) : oneR (2 * (T.drop i).length + 2) d (T.drop i) = none := by
 rw [H.word]
 unfold shutR
 rw [if_neg]
 rintro ⟨h1, h2⟩
 rcases h with h | h
 ·rw [aloneF_is, H.ll, h] at h2; cases h2
 ·rw [h] at h1; cases h1
theorem EndS.yes {T : Txt} {i d p j c n : Nat} {w wx w' : World} {k : Int} {A : Option Addr} {s v : Txt} {l : List FV} {e : Ending} (H : EndS T i d w wx p k A j c s v l) (ha : aloneH k j s v = true) (hb : begP [41] (T.drop p) = true) (hn : T.length = n) (hp : p < n) (he : e = .returned (.tuple #[FH.val ⟨k, A, j, c, s, v⟩, .int .i64 ((p : Int) + 1)])) (hk : Keeps [w.heap.size] wx w') : OnQ T i d w e w' := by
 have hw := H.word
 have hal : aloneF (.mk k l s v) = true := by rw [aloneF_is, H.ll, ha]
 rw [shutR, if_pos ⟨hb, hal⟩] at hw
 refine ⟨fun t R ht => ?_, fun h9 => (by rw [hw] at h9; cases h9), (H.keep.trans hk (fun x hx => .inr (by simp at hx; omega)))⟩
 rw [hw] at ht
 injection ht with ht
 injection ht with h1 h2
 subst h1 h2
 refine ⟨⟨k, A, j, c, s, v⟩, ?_, fun S X hS hX => H.fin w' hk S X hS hX⟩
 rw [he, List.drop_drop, List.length_drop, hn]
 rw [show ((n - (n - (p + 1)) : Nat) : Int) = (p : Int) + 1 by omega]
theorem leaf_end {T R : Txt} {i d p k : Nat} {w wx : World} {s v : Txt} (hb : wx.heap[w.heap.size + 1]? = some (.cells #[.int .i64 k, .slice none 0 0, .string ⟨s.toArray⟩, .string ⟨v.toArray⟩] 26 (0, 0))) (hr : wx.heap[w.heap.size]? = some (.cells #[.int .i64 0, .slice none 0 0, .string ⟨#[]⟩, .string ⟨#[]⟩] 26 (0, 0))) (hk : Keeps [] w wx) (h : oneR (2 * (T.drop i).length + 2) d (T.drop i) = shutR (.mk k [] s v) R) (hR : T.drop p = R) (hs : s.length ≤ 1000000000) (hv : v.length ≤ 1000000000) (hk6 : k ≤ 6) : EndS T i d w wx p k none 0 0 s v [] :=
 ⟨hb, hr, hk, by rw [h, hR], fun w3 _ E X _ _ => by
  unfold FilAt
  exact ⟨rfl, rfl, rfl, by omega, by omega, by omega, by omega, rfl, Nat.le_refl _, by show (0 : Nat) ≤ _; omega, trivial⟩, hs, hv, rfl⟩
theorem sign_end {T : Txt} {i d p j c : Nat} {k : Int} {A : Option Addr} {hs : List FH} {l : List FV} {w wx : World} (H : OneS w wx k A j c hs l) (hw : oneR (2 * (T.drop i).length + 2) d (T.drop i) = shutR (.mk k l [] []) (T.drop p)) (hk : -9223372036854775808 ≤ k ∧ k ≤ 9223372036854775807) : EndS T i d w wx p k A j c [] [] l :=
 ⟨H.box, H.res, H.keep, hw, fun w3 k3 E X hE hX => H.fin k3 hk E X hE hX, by simp, by simp, H.lsl⟩
theorem kd_sgn {c : UInt8} {U : Txt} (h : ∀ b : UInt8, begP [b] U = (c == b)) : ((sgnR U : Nat) : Int) = kdZ c 4 := by
 unfold sgnR kdZ
 rw [h, h, h]
 by_cases h1 : c = 38
 ·simp [h1]
 ·by_cases h2 : c = 124
  ·simp [h1, h2]
  ·by_cases h3 : c = 33 <;> simp [h1, h2, h3]
theorem kd_le (c : UInt8) : 0 ≤ kdZ c 4 ∧ kdZ c 4 ≤ 3 := by
 unfold kdZ
 split
 ·omega
 ·split
  ·omega
  ·split <;> omega
theorem kd_leaf (c : UInt8) : kdZ c 4 = 0 ↔ ¬ (c = 38 ∨ c = 124 ∨ c = 33) := by
 unfold kdZ
 by_cases h1 : c = 38
 ·simp [h1]
 ·by_cases h2 : c = 124
  ·simp [h1, h2]
  ·by_cases h3 : c = 33 <;> simp [h1, h2, h3]
set_option maxHeartbeats 8000000 in
theorem rone_in (T : Txt) (hT : T.length ≤ 1000000000) (d i : Nat) (c : UInt8) (w : World) (hd : d ≤ 16) (IH : ∀ (p : Nat) (X : World), p ≤ T.length → Calls Tryz.prog 32 #[tv T, .int .i64 (p : Int), .int .i64 ((d + 1 : Nat) : Int)] X fun e w' => OnQ T p (d + 1) X e w') (hi : i + 1 < T.length) (h40 : T[i]? = some 40) (hcu : T[i + 1]? = some c) : Calls Tryz.prog 32 #[tv T, .int .i64 (i : Int), .int .i64 (d : Int)] w fun e w' => OnQ T i d w e w' := by
 obtain ⟨iu, hiu, hzu0, hzu1, hzu2⟩ := info_parts fil_info8
 obtain ⟨W0, hW0⟩ : ∃ W0, (w.alloc (.cells #[.int .i64 0, .slice none 0 0, .string ⟨#[]⟩, .string ⟨#[]⟩] 26)).alloc (.cells #[.int .i64 0, .slice none 0 0, .string ⟨#[]⟩, .string ⟨#[]⟩] 26) = W0 := ⟨_, rfl⟩
 have hk0 : Keeps [] w W0 := by rw [← hW0]; exact ((Keeps.refl [] w).alloc _).alloc _
 obtain ⟨hb0, hb1⟩ := two_boxes8 w (.cells #[.int .i64 0, .slice none 0 0, .string ⟨#[]⟩, .string ⟨#[]⟩] 26) (.cells #[.int .i64 0, .slice none 0 0, .string ⟨#[]⟩, .string ⟨#[]⟩] 26)
 rw [hW0] at hb0 hb1
 obtain ⟨⟨c0, c1, c2, c3⟩, ⟨f0, f1, f2, f3⟩⟩ := four_facts8 hb1
 have HK0 := Lib.hid hk0
 have HREC := Lib.hid IH
 clear IH
 rw [show ((d + 1 : Nat) : Int) = (d : Int) + 1 by omega] at HREC
 have HR0 := Lib.hid hb0
 have HF0 := Lib.hid hb1
 obtain ⟨n, hn⟩ : ∃ n, T.length = n := ⟨_, rfl⟩
 have hsz : (⟨T.toArray⟩ : ByteArray).size = n := hn
 have HN := Lib.hid hn
 rw [hn] at hT hi
 have hat := str_at T i 40 h40
 have hdi : ¬ (16 : Int) < (d : Int) := by omega
 have hii : ¬ (n : Int) ≤ (i : Int) + 1 := by omega
 have hin : (i : Int) < (n : Int) := by omega
 have hi0 : (0 : Int) ≤ (i : Int) := by omega
 have h4 : ((40 : UInt8).toNat : Int) = 40 := rfl
 have hsl : ∀ W, (Instr.slice 9 (.string ⟨T.toArray⟩) (some (.int .i64 ((i : Int) + 1))) (some (.int .i64 ((i : Int) + 1 + 1))) none).run Tryz.prog W = .ok (.string ⟨#[c]⟩) W := fun W => by
  obtain ⟨hj, h8⟩ := List.getElem?_eq_some_iff.1 hcu
  rw [run_slice_string W 9 ⟨T.toArray⟩ .i64 .i64 ((i : Int) + 1) ((i : Int) + 1 + 1) Tryz.underlying9 (by omega) (by omega) (by show (i : Int) + 1 + 1 ≤ (T.length : Int); have := HN.out; omega)]
  rw [show ((i : Int) + 1).toNat = i + 1 by omega, show ((i : Int) + 1 + 1).toNat = i + 2 by omega, ByteArray.extract_mk]
  have h9 : (T.drop (i + 1)).take 1 = [c] := by rw [List.drop_eq_getElem_cons hj, h8]; rfl
  simp [List.extract, h9, show i + 2 - (i + 1) = 1 by omega]
 have FIN : Hid (∀ (X : World), Keeps [] w X → X.heap[w.heap.size]? = some (.cells #[.int .i64 0, .slice none 0 0, .string ⟨#[]⟩, .string ⟨#[]⟩] 26 (0, 0)) → oneR (2 * (T.drop i).length + 2) d (T.drop i) = none → ∀ fn : Array Value, fn.getD 6 undef = .pointer (some ⟨w.heap.size, 0, none⟩) → fn.getD 7 undef = .int .i64 (-1) →
   bodyPost Tryz.prog Tryz.f32 (fun e w' => OnQ T i d w e w') .ret ⟨fn, []⟩ ((((X.setCell ⟨w.heap.size, 0, none⟩ (.int .i64 0)).setCell ⟨w.heap.size, 1, none⟩ (.slice none 0 0)).setCell ⟨w.heap.size, 2, none⟩ (.string ⟨#[]⟩)).setCell ⟨w.heap.size, 3, none⟩ (.string ⟨#[]⟩))) := by
  intro X hX hx hno fn h6 h7
  have HR6' := heap_setCell_same _ w.heap.size 0 _ _ (.int .i64 0) hx
  have HR7' := heap_setCell_same _ w.heap.size 1 _ _ (.slice none 0 0) HR6'
  have HR8' := heap_setCell_same _ w.heap.size 2 _ _ (.string ⟨#[]⟩) HR7'
  have hrow := heap_setCell_same _ w.heap.size 3 _ _ (.string ⟨#[]⟩) HR8'
  refine bodyPost_ret (results_fil_tmp rfl _ _ w.heap.size _ (0, 0) h6 rfl hrow) rfl ⟨fun t R ht => (by rw [hno] at ht; cases ht), fun _ => by rw [h7]; rfl, ?_⟩
  exact ((((hX.setCell (.inr (Nat.le_refl _)) _).setCell (.inr (Nat.le_refl _)) _).setCell (.inr (Nat.le_refl _)) _).setCell (.inr (Nat.le_refl _)) _)
 have h2T : 2 ≤ (T.drop i).length := by have := HN.out; simp; omega
 have hdr1 : (T.drop i).drop 1 = T.drop (i + 1) := by rw [List.drop_drop]
 have hb40 : begP [40] (T.drop i) = true := by
  obtain ⟨hj, h9⟩ := List.getElem?_eq_some_iff.1 h40
  rw [List.drop_eq_getElem_cons hj, h9]; simp [begP]
 have HBC : Hid (∀ b : UInt8, begP [b] (T.drop (i + 1)) = (c == b)) := fun b => by
  obtain ⟨hj, h9⟩ := List.getElem?_eq_some_iff.1 hcu
  rw [List.drop_eq_getElem_cons hj, h9]; simp [begP]
 have HLEAF : Hid (¬ (c = 38 ∨ c = 124 ∨ c = 33) → oneR (2 * (T.drop i).length + 2) d (T.drop i) = match leafR (T.drop (i + 1)) with
   | none => none
   | some (k, s, v, R) => shutR (.mk k [] s v) R) := fun h => by
  have h9 := oneR_leaf hd h2T hb40 (by
   rw [hdr1]; unfold sgnR; rw [HBC.out, HBC.out, HBC.out]
   have h1 : ¬ c = 38 := fun h9 => h (.inl h9)
   have h2 : ¬ c = 124 := fun h9 => h (.inr (.inl h9))
   have h3 : ¬ c = 33 := fun h9 => h (.inr (.inr h9))
   simp [h1, h2, h3])
  rw [hdr1] at h9
  exact h9
 have HSIGN : Hid (c = 38 ∨ c = 124 ∨ c = 33 → oneR (2 * (T.drop i).length + 2) d (T.drop i) = match manyR (2 * (T.drop (i + 2)).length + 1) d 0 (T.drop (i + 2)) with
   | none => none
   | some (l, R) => shutR (.mk (kdZ c 4) l [] []) R) := fun h => by
  have hsg := kd_sgn HBC.out
  have h9 := oneR_sign hd h2T hb40 (by
   rw [hdr1]; intro h0
   have h8 := (kd_leaf c).1 (by rw [← hsg, h0]; rfl)
   exact h8 h)
  rw [hdr1, List.drop_drop, hsg] at h9
  exact h9
 have HKD := Lib.hid (kd_le c)
 have HKL := Lib.hid (kd_leaf c)
 clear hn hk0 hb0 hb1 h40 hcu hb40 h2T hdr1
 unfold tv at *
 go_enter Tryz.func32, Tryz.ntmps32
 go_wp2_with fail
 clear c0 c1 c2 c3 f0 f1 f2 f3
 go_loopw [9] (fun a wr => ∃ k : Nat, a = .int .i64 (k : Int) ∧ 1 ≤ k ∧ k ≤ 4 ∧ Hid (Keeps [] w wr ∧ wr.heap[w.heap.size]? = some (.cells #[.int .i64 0, .slice none 0 0, .string ⟨#[]⟩, .string ⟨#[]⟩] 26 (0, 0)) ∧ wr.heap[w.heap.size + 1]? = some (.cells #[.int .i64 (kdZ c k), .slice none 0 0, .string ⟨#[]⟩, .string ⟨#[]⟩] 26 (0, 0)))) (fun a _ => 4 - (intOf a).toNat)
 case atStart =>
  refine ⟨1, rfl, by omega, by omega, ⟨?_, ?_, ?_⟩⟩
  ·exact (((((HK0.out).setCell (.inr (Nat.le_succ _)) _).setCell (.inr (Nat.le_succ _)) _).setCell (.inr (Nat.le_succ _)) _).setCell (.inr (Nat.le_succ _)) _)
  ·exact blk_keep HR0.out (((((Keeps.refl [w.heap.size + 1] W0).setCell (.inl (by simp)) _).setCell (.inl (by simp)) _).setCell (.inl (by simp)) _).setCell (.inl (by simp)) _) (by simp)
  ·have h9 := heap_setCell_same _ (w.heap.size + 1) 3 _ _ (.string ⟨#[]⟩) (heap_setCell_same _ (w.heap.size + 1) 2 _ _ (.string ⟨#[]⟩) (heap_setCell_same _ (w.heap.size + 1) 1 _ _ (.slice none 0 0) (heap_setCell_same _ (w.heap.size + 1) 0 _ _ (.int .i64 0) HF0.out)))
   rw [show kdZ c 1 = 0 by unfold kdZ; simp]
   exact h9
 case round =>
  obtain ⟨k, rfl, hk1, hk4, HS⟩ := hrel
  by_cases hk : k < 4
  ·have hslw : ∀ W, (Instr.slice 9 (.string ⟨T.toArray⟩) (some (.int .i64 ((i : Int) + 1))) (some (.int .i64 (IntKind.i64.wrap ((i : Int) + 1 + 1)))) none).run Tryz.prog W = .ok (.string ⟨#[c]⟩) W := fun W => by rw [IntWalk.i64_in ((i : Int) + 1 + 1) (by omega)]; exact hsl W
   have hk3 : k = 1 ∨ k = 2 ∨ k = 3 := by omega
   have hki : ((k : Nat) : Int) ≤ 3 := by omega
   rcases hk3 with rfl | rfl | rfl
   ·have HK2 : Hid (Keeps [] wr (wr.alloc (.cells #[.string ⟨#[38]⟩, .string ⟨#[124]⟩, .string ⟨#[33]⟩] 9)).drew) := Lib.hid (((Keeps.refl [] wr).alloc _).drew)
    have HF2 := Lib.hid (blk_keep HS.out.2.2 HK2.out (by simp))
    have HR2 := Lib.hid (blk_keep HS.out.2.1 HK2.out (by simp))
    obtain ⟨⟨z0, z1, z2, z3⟩, ⟨f0, f1, f2, f3⟩⟩ := four_facts8 HF2.out
    by_cases hc : c = 38
    ·subst hc
     go_wp2_with fail
     try rw [show ((1 : Nat) : Int) = 1 from rfl]
     go_region
     go_wp2_with fail
     go_roundw
     case rel =>
      refine ⟨2, by go_num, by omega, by omega, ⟨?_, ?_, ?_⟩⟩
      ·exact (HS.out.1.trans' HK2.out).setCell (.inr (Nat.le_succ _)) _
      ·exact blk_keep HR2.out ((Keeps.refl [w.heap.size + 1] _).setCell (.inl (by simp)) _) (by simp)
      ·exact heap_setCell_same _ (w.heap.size + 1) 0 _ _ (.int .i64 1) HF2.out
     case measure => simp [intOf]
    ·obtain ⟨hcb, hcb2, hcb3⟩ := one_ne hc
     have hcy : (c == 38) = false := by simpa using hc
     go_wp2_with fail
     try rw [show ((1 : Nat) : Int) = 1 from rfl]
     go_region
     go_wp2_with fail
     go_roundw
     case rel =>
      refine ⟨2, by go_num, by omega, by omega, ⟨HS.out.1.trans' HK2.out, HR2.out, ?_⟩⟩
      rw [show kdZ c 2 = kdZ c 1 by unfold kdZ; simp [hc]]
      exact HF2.out
     case measure => simp [intOf]
   ·have HK2 : Hid (Keeps [] wr (wr.alloc (.cells #[.string ⟨#[38]⟩, .string ⟨#[124]⟩, .string ⟨#[33]⟩] 9)).drew) := Lib.hid (((Keeps.refl [] wr).alloc _).drew)
    have HF2 := Lib.hid (blk_keep HS.out.2.2 HK2.out (by simp))
    have HR2 := Lib.hid (blk_keep HS.out.2.1 HK2.out (by simp))
    obtain ⟨⟨z0, z1, z2, z3⟩, ⟨f0, f1, f2, f3⟩⟩ := four_facts8 HF2.out
    by_cases hc : c = 124
    ·subst hc
     go_wp2_with fail
     try rw [show ((2 : Nat) : Int) = 2 from rfl]
     go_region
     go_wp2_with fail
     go_roundw
     case rel =>
      refine ⟨3, by go_num, by omega, by omega, ⟨?_, ?_, ?_⟩⟩
      ·exact (HS.out.1.trans' HK2.out).setCell (.inr (Nat.le_succ _)) _
      ·exact blk_keep HR2.out ((Keeps.refl [w.heap.size + 1] _).setCell (.inl (by simp)) _) (by simp)
      ·exact heap_setCell_same _ (w.heap.size + 1) 0 _ _ (.int .i64 2) HF2.out
     case measure => simp [intOf]
    ·obtain ⟨hcb, hcb2, hcb3⟩ := one_ne hc
     have hcy : (c == 124) = false := by simpa using hc
     go_wp2_with fail
     try rw [show ((2 : Nat) : Int) = 2 from rfl]
     go_region
     go_wp2_with fail
     go_roundw
     case rel =>
      refine ⟨3, by go_num, by omega, by omega, ⟨HS.out.1.trans' HK2.out, HR2.out, ?_⟩⟩
      rw [show kdZ c 3 = kdZ c 2 by unfold kdZ; simp [hc]]
      exact HF2.out
     case measure => simp [intOf]
   ·have HK2 : Hid (Keeps [] wr (wr.alloc (.cells #[.string ⟨#[38]⟩, .string ⟨#[124]⟩, .string ⟨#[33]⟩] 9)).drew) := Lib.hid (((Keeps.refl [] wr).alloc _).drew)
    have HF2 := Lib.hid (blk_keep HS.out.2.2 HK2.out (by simp))
    have HR2 := Lib.hid (blk_keep HS.out.2.1 HK2.out (by simp))
    obtain ⟨⟨z0, z1, z2, z3⟩, ⟨f0, f1, f2, f3⟩⟩ := four_facts8 HF2.out
    by_cases hc : c = 33
    ·subst hc
     go_wp2_with fail
     try rw [show ((3 : Nat) : Int) = 3 from rfl]
     go_region
     go_wp2_with fail
     go_roundw
     case rel =>
      refine ⟨4, by go_num, by omega, by omega, ⟨?_, ?_, ?_⟩⟩
      ·exact (HS.out.1.trans' HK2.out).setCell (.inr (Nat.le_succ _)) _
      ·exact blk_keep HR2.out ((Keeps.refl [w.heap.size + 1] _).setCell (.inl (by simp)) _) (by simp)
      ·exact heap_setCell_same _ (w.heap.size + 1) 0 _ _ (.int .i64 3) HF2.out
     case measure => simp [intOf]
    ·obtain ⟨hcb, hcb2, hcb3⟩ := one_ne hc
     have hcy : (c == 33) = false := by simpa using hc
     go_wp2_with fail
     try rw [show ((3 : Nat) : Int) = 3 from rfl]
     go_region
     go_wp2_with fail
     go_roundw
     case rel =>
      refine ⟨4, by go_num, by omega, by omega, ⟨HS.out.1.trans' HK2.out, HR2.out, ?_⟩⟩
      rw [show kdZ c 4 = kdZ c 3 by unfold kdZ; simp [hc]]
      exact HF2.out
     case measure => simp [intOf]
  ·obtain rfl : k = 4 := by omega
   have HKW := Lib.hid HS.out.1
   have HRW := Lib.hid HS.out.2.1
   have HFW := Lib.hid HS.out.2.2
   obtain ⟨kk, hkk⟩ : ∃ kk, kdZ c 4 = kk := ⟨_, rfl⟩
   rw [hkk] at HFW HKD HKL HSIGN
   obtain ⟨⟨z0, z1, z2, z3⟩, ⟨f0, f1, f2, f3⟩⟩ := four_facts8 HFW.out
   clear hkk HS HBC hk hk1 hk4
   go_upto_if 53 with fail
   go_cut [1] (fun s1 wx => ∃ (p : Nat) (k : Int) (A : Option Addr) (j c : Nat) (s v : Txt) (l : List FV), s1 = .int .i64 (p : Int) ∧ p ≤ n ∧ Hid (EndS T i d w wx p k A j c s v l))
   case first =>
    by_cases hs : c = 38 ∨ c = 124 ∨ c = 33
    ·have HSG := Lib.hid (HSIGN.out hs)
     have hkk : 0 < kk := by
      have h1 := HKD.out
      have h2 : ¬ kk = 0 := fun h => HKL.out.1 h hs
      omega
     have HKR : Hid (-9223372036854775808 ≤ kk ∧ kk ≤ 9223372036854775807) := by have := HKD.out; exact ⟨by omega, by omega⟩
     have HS0 := Lib.hid (OneS.new HFW.out HRW.out HKW.out)
     have HM0 := Lib.hid (OneM.new T (i + 2) d)
     have hii2 : IntKind.i64.wrap ((i : Int) + 1 + 1) = ((i + 2 : Nat) : Int) := by rw [IntWalk.i64_in _ (by omega)]; omega
     clear hs HSIGN HLEAF HKL HKD hsl hat h4
     go_wp2_with fail
     go_loopw [1] (fun a wr => ∃ (p : Nat) (A : Option Addr) (j c : Nat) (hs : List FH) (l : List FV), a = .int .i64 (p : Int) ∧ i + 2 ≤ p ∧ p ≤ n ∧ Hid (OneS w wr kk A j c hs l) ∧ Hid (OneM T (i + 2) d p l)) (fun a _ => n - (intOf a).toNat)
     case atStart => exact ⟨i + 2, none, 0, 0, [], [], (by go_num), by omega, by omega, HS0.out, HM0.out⟩
     case round =>
      obtain ⟨p, A, j, cc, hs, l, rfl, hp2, hpn, HS, HM⟩ := hrel
      have hp0 : (0 : Int) ≤ (p : Int) := by omega
      by_cases hlt : p < n
      ·obtain ⟨u, hu⟩ : ∃ u, T[p]? = some u := ⟨_, List.getElem?_eq_getElem (by have := HN.out; omega)⟩
       have hatp := str_at T p u hu
       have hpi : (p : Int) < (n : Int) := by omega
       have HBP : Hid (begP [40] (T.drop p) = (u == 40)) := by
        obtain ⟨hj, h9⟩ := List.getElem?_eq_some_iff.1 hu
        show _ = _
        rw [List.drop_eq_getElem_cons hj, h9]; simp [begP]
       clear hu
       by_cases h40 : u = 40
       ·subst h40
        have hx40 : ((40 : UInt8).toNat : Int) = 40 := rfl
        have hx40b : (((40 : UInt8).toNat : Int) == 40) = true := rfl
        have hdw : IntKind.i64.wrap ((d : Int) + 1) = (d : Int) + 1 := IntWalk.i64_in _ (by omega)
        go_wp2_with fail
        refine (HREC.out p _ (by rw [HN.out]; exact hpn)).mono ?_
        rintro e w6 ⟨h1, h2, hk6⟩
        clear hatp hx40 hx40b
        cases ho : oneR (2 * (T.drop p).length + 2) (d + 1) (T.drop p) with
        | none =>
         obtain rfl := h2 ho
         have HNO : Hid (oneR (2 * (T.drop i).length + 2) d (T.drop i) = none) := by
          show _ = _
          rw [HSG.out, HM.out.bad (by rw [HBP.out]; rfl) (.inl ho)]
         have hk7 := hk6.alloc (.cells #[.int .i64 0, .slice none 0 0, .string ⟨#[]⟩, .string ⟨#[]⟩] 26)
         have HKW7 := Lib.hid (HS.out.keep.trans' hk7)
         have HRW7 := Lib.hid (blk_keep HS.out.res hk7 (by simp))
         obtain ⟨⟨r0, r1, r2, r3⟩, ⟨e0, e1, e2, e3⟩⟩ := four_facts8 HRW7.out
         have hm1 : (-1 : Int) < 0 := by omega
         clear h1 h2 ho hk6 hk7
         unfold FH.val tv
         dsimp only
         go_wp2_with fail
         exact FIN.out _ HKW7.out HRW7.out HNO.out _ rfl rfl
        | some x =>
         obtain ⟨t, R⟩ := x
         obtain ⟨h, rfl, hf⟩ := h1 t R ho
         have hRl := oneR_len _ _ _ _ _ ho
         have hRs := (oneR_suf _ _ _ _ _ ho).trans (List.drop_suffix _ _)
         have hqR := suf_drop hRs
         obtain ⟨q, hq⟩ : ∃ q, T.length - R.length = q := ⟨_, rfl⟩
         rw [hq] at hqR ⊢
         have hqn : q ≤ n := by have := HN.out; omega
         have hpq : p < q := by have := HN.out; simp at hRl; omega
         have HOO := Lib.hid ho
         have HQR := Lib.hid hqR
         have HF := Lib.hid hf
         have HK6 := Lib.hid hk6
         have hq0 : ¬ (q : Int) < 0 := by omega
         clear h1 h2 ho hRl hRs hqR hq hf
         obtain ⟨k6, B6, lb6, cb6, s6, v6⟩ := h
         obtain ⟨W7, hW7⟩ : ∃ W7, w6.alloc (.cells #[.int .i64 k6, .slice B6 lb6 cb6, .string ⟨s6.toArray⟩, .string ⟨v6.toArray⟩] 26) = W7 := ⟨_, rfl⟩
         have hk7 : Keeps [] w6 W7 := by rw [← hW7]; exact (Keeps.refl [] w6).alloc _
         have hb7 := heap_new8 w6 (.cells #[.int .i64 k6, .slice B6 lb6 cb6, .string ⟨s6.toArray⟩, .string ⟨v6.toArray⟩] 26)
         rw [hW7] at hb7
         have HK7 := Lib.hid hk7
         have HB7 := Lib.hid hb7
         have HS7 := Lib.hid (HS.out.grow (hk6.trans' hk7))
         obtain ⟨⟨z0, z1, z2, z3⟩, ⟨f0, f1, f2, f3⟩⟩ := four_facts8 HS7.out.box
         obtain ⟨⟨y0, y1, y2, y3⟩, _⟩ := four_facts8 HB7.out
         clear hk7 hb7 hk6
         have hj9 := HS.out.jn
         by_cases hj : j ≤ 200
         ·have hji : ¬ (200 : Int) < (j : Int) := by omega
          have HK8 : Hid (Keeps [] W7 (W7.alloc (.cells #[.int .i64 k6, .slice B6 lb6 cb6, .string ⟨s6.toArray⟩, .string ⟨v6.toArray⟩] 26))) := (Keeps.refl [] W7).alloc _
          have HROW := Lib.hid (HS7.out.grow HK8.out).row
          have HBX := Lib.hid (HS7.out.grow HK8.out).box
          have HSZ : Hid (w.heap.size + 2 ≤ (W7.alloc (.cells #[.int .i64 k6, .slice B6 lb6 cb6, .string ⟨s6.toArray⟩, .string ⟨v6.toArray⟩] 26)).heap.size) := by
           have h8 := lt_of_heap HBX.out
           show _ ≤ _
           omega
          unfold FH.val tv
          dsimp only
          go_wp2_with (at_builtin; refine wpList_append_opt rfl (.tmp 84) (.tmp 86) 24 rfl (w.heap.size + 2) 26 iu _ 4 64 Tryz.underlying24 hiu hzu0 hzu1 hzu2 rfl (by decide) (.slice A j cc) j (headsF hs) rfl HROW.out (some ⟨W7.heap.size, 0, none⟩) 1 1 (FH.list ⟨k6, B6, lb6, cb6, s6, v6⟩) rfl rfl (src_one8 W7 ⟨k6, B6, lb6, cb6, s6, v6⟩ _) (by intro u hu; simp [FH.list, tv] at hu; rcases hu with rfl | rfl | rfl | rfl <;> rfl) (by unfold maxLen; omega) (by omega) HSZ.out ?_; intro v8 w8 ho8 hg8 hs8; obtain ⟨A8, c8, hv8⟩ := own_slice ho8; subst hv8; have HX := Lib.hid (HS.out.step HK6.out HF.out hj (HK7.out.trans' HK8.out) ho8 hg8 hs8); have HB8 : Hid (w8.heap[w.heap.size + 1]? = some (.cells #[.int .i64 kk, .slice A j cc, .string ⟨#[]⟩, .string ⟨#[]⟩] 26 (0, 0))) := blk_keep HBX.out (Keeps.of_grown (bs := (Value.slice A j cc).ownBlock.toList) hg8 (fun x hx => .inl (by rw [hx]; simp))) (fun hm => by have := (HROW.out.lt (w.heap.size + 1) (by simpa using hm)).1; omega); obtain ⟨⟨x0, x1, x2, x3⟩, xf0, xf1, xf2, xf3⟩ := four_facts8 HB8.out; clear ho8 hg8 hs8)
          go_roundw
          case rel => exact ⟨q, (by first | rfl | go_num), by omega, by omega, A8, j + 1, c8, _, _, HX.out, HM.out.more (by rw [HBP.out]; rfl) HOO.out (by have := HS.out.lsl; omega) HQR.out⟩
          case measure => simp [intOf]; omega
         ·have hji : (200 : Int) < (j : Int) := by omega
          have HNO : Hid (oneR (2 * (T.drop i).length + 2) d (T.drop i) = none) := by
           show _ = _
           rw [HSG.out, HM.out.bad (by rw [HBP.out]; rfl) (.inr (by have := HS.out.lsl; omega))]
          obtain ⟨⟨r0, r1, r2, r3⟩, ⟨e0, e1, e2, e3⟩⟩ := four_facts8 HS7.out.res
          unfold FH.val tv
          dsimp only
          go_wp2_with fail
          exact FIN.out _ HS7.out.keep HS7.out.res HNO.out _ rfl rfl
       ·have h40i : ¬ (u.toNat : Int) = 40 := fun h => h40 (UInt8.toNat_inj.1 (by show u.toNat = 40; omega))
        have h40b : ((u.toNat : Int) == 40) = false := by simpa using h40i
        have h40n : ((u.toNat : Int) != 40) = true := by simpa using h40i
        have hbf : ¬ begP [40] (T.drop p) = true := by rw [HBP.out]; simpa using h40
        have HEND := Lib.hid (sign_end HS.out (by rw [HSG.out, HM.out.stop hbf]) HKR.out)
        clear hbf
        go_wp2_with fail
        go_meet
        exact ⟨p, kk, A, j, cc, [], [], l, rfl, hpn, HEND.out⟩
      ·obtain rfl : p = n := by omega
       have hpi : ¬ (p : Int) < (p : Int) := by omega
       have hbf : ¬ begP [40] (T.drop p) = true := by rw [← HN.out, List.drop_length]; simp [begP]
       have HEND := Lib.hid (sign_end HS.out (by rw [HSG.out, HM.out.stop hbf]) HKR.out)
       clear hbf
       go_wp2_with fail
       go_meet
       exact ⟨p, kk, A, j, cc, [], [], l, rfl, hpn, HEND.out⟩
    ·have HL := Lib.hid (HLEAF.out hs)
     obtain rfl : kk = 0 := HKL.out.2 hs
     obtain ⟨⟨r0, r1, r2, r3⟩, ⟨e0, e1, e2, e3⟩⟩ := four_facts8 HRW.out
     clear hs HLEAF HSIGN HKD HKL HREC hsl hat h4
     go_wp2_with fail
     go_loopw [1] (fun a w2 => ∃ j : Nat, a = .int .i64 (j : Int) ∧ i + 1 ≤ j ∧ j ≤ n ∧ w2 = wr ∧ Hid (untP [61] (T.drop (i + 1)) = (untP [61] (T.drop j)).map (· + (j - (i + 1))))) (fun a _ => n - (intOf a).toNat)
     case atStart => exact ⟨i + 1, by go_num, by omega, by omega, (by first | rfl | trivial), (by show _ = _; cases untP [61] (T.drop (i + 1)) <;> simp)⟩
     case round =>
      obtain ⟨j, rfl, hj1, hjn, rfl, HU⟩ := hrel
      by_cases hlt : j < n
      ·obtain ⟨u, hu⟩ : ∃ u, T[j]? = some u := ⟨_, List.getElem?_eq_getElem (by have := HN.out; omega)⟩
       have HUJ := Lib.hid hu
       have hatj := str_at T j u hu
       have hji : (j : Int) < (n : Int) := by omega
       by_cases h61 : u = 61
       ·subst h61
        have hU2 : untP [61] (T.drop (i + 1)) = some (j - (i + 1)) := by rw [HU.out, unt_at HUJ.out]; simp
        obtain ⟨N, hN⟩ : ∃ N, (T.drop (i + 1)).take (j - (i + 1)) = N := ⟨_, rfl⟩
        have hNl : N.length ≤ 1000000000 := by rw [← hN]; have := HN.out; simp; omega
        have HLV : Hid (leafR (T.drop (i + 1)) = match valR (T.drop (j + 1)).length (T.drop (j + 1)) with
          | none => none
          | some (v, R) => if begP [42] R = true then some (if v = [] then 6 else 5, smallL N, v, R.drop 1) else some (4, smallL N, v, R)) := by
         show _ = _
         unfold leafR
         rw [hU2]
         dsimp only
         rw [hN, show (T.drop (i + 1)).drop (j - (i + 1) + 1) = T.drop (j + 1) by rw [List.drop_drop]; congr 1; omega]
         cases valR (T.drop (j + 1)).length (T.drop (j + 1)) <;> rfl
        have HVA := Lib.hid (fun X => rvalue8_is T (j + 1) X (by have := HN.out; omega) (by have := HN.out; omega))
        rw [show ((j + 1 : Nat) : Int) = (j : Int) + 1 by omega] at HVA
        unfold tv at HVA
        have h61n : (((61 : UInt8).toNat : Int) != 61) = false := by decide
        have h61b : (((61 : UInt8).toNat : Int) == 61) = true := by decide
        have hjn2 : ¬ (n : Int) ≤ (j : Int) := by omega
        have HNN := Lib.hid hN
        clear hu hU2 hN
        go_wp2_with fail
        refine (HVA.out _).mono ?_
        rintro e w2 ⟨hv1, hv2, hk2⟩
        have HKW2 := Lib.hid (HKW.out.trans' hk2)
        have HRW2 := Lib.hid (blk_keep HRW.out hk2 (by simp))
        have HFW2 := Lib.hid (blk_keep HFW.out hk2 (by simp))
        clear hk2 z0 z1 z2 z3 f0 f1 f2 f3 r0 r1 r2 r3 e0 e1 e2 e3
        cases hv : valR (T.drop (j + 1)).length (T.drop (j + 1)) with
        | none =>
         obtain rfl := hv2 hv
         have HNO : Hid (oneR (2 * (T.drop i).length + 2) d (T.drop i) = none) := by
          show _ = _
          rw [HL.out, HLV.out, hv]
         obtain ⟨⟨r0, r1, r2, r3⟩, ⟨e0, e1, e2, e3⟩⟩ := four_facts8 HRW2.out
         clear hv1 hv2 hv
         unfold tv
         go_wp2_with fail
         exact FIN.out _ HKW2.out HRW2.out HNO.out _ rfl rfl
        | some p =>
         obtain ⟨v, R⟩ := p
         obtain rfl := hv1 v R hv
         obtain ⟨⟨u, r, hR, hu41⟩, pre, hpre⟩ := valR_tail _ _ _ _ hv
         have HV := Lib.hid hv
         have hRl : R.length ≤ n - (j + 1) := by have h9 := congrArg List.length hpre; have := HN.out; simp at h9; omega
         have hR1 : 1 ≤ R.length := by rw [hR]; simp
         have hvl : v.length ≤ 1000000000 := by have h9 := valR_vlen _ _ _ _ hv; have := HN.out; simp at h9; omega
         obtain ⟨p, hp⟩ : ∃ p, T.length - R.length = p := ⟨_, rfl⟩
         have hp1 : p < n := by have := HN.out; omega
         have hpR : T.drop p = R := by
          have h9 : T = (T.take (j + 1) ++ pre) ++ R := by rw [List.append_assoc, ← hpre, List.take_append_drop]
          rw [← hp]
          exact (drop_end h9).symm
         have hup : T[p]? = some u := by rw [← List.head?_drop, hpR, hR]; rfl
         have hatp := str_at T p u hup
         have HPR := Lib.hid hpR
         have HRR := Lib.hid hR
         rw [hp]
         have HSM := Lib.hid (fun X => rsmall_is N X (by omega))
         have hslN : ∀ W, (Instr.slice 9 (.string ⟨T.toArray⟩) (some (.int .i64 ((i : Int) + 1))) (some (.int .i64 (j : Int))) none).run Tryz.prog W = .ok (.string ⟨N.toArray⟩) W := fun W => by
          have h9 := str_cut8 T (i + 1) j (by omega) (by rw [HN.out]; omega) W
          rw [HNN.out] at h9
          rw [show ((i : Int) + 1) = ((i + 1 : Nat) : Int) by omega]
          exact h9
         have hp0 : ¬ (p : Int) < 0 := by omega
         have hpn : (p : Int) < (n : Int) := by omega
         have hpp : (0 : Int) ≤ (p : Int) := by omega
         obtain ⟨⟨z0, z1, z2, z3⟩, ⟨f0, f1, f2, f3⟩⟩ := four_facts8 HFW2.out
         clear hv1 hv2 hv hup hpR hpre hp hR
         unfold tv
         go_upto_region 26 with fail
         go_wp2_with fail
         refine (HSM.out _).mono ?_
         rintro e w3 ⟨rfl, hk3⟩
         have HKW3 := Lib.hid (HKW2.out.trans' hk3)
         have HRW3 := Lib.hid (blk_keep HRW2.out hk3 (by simp))
         have HFW3 := Lib.hid (blk_keep HFW2.out hk3 (by simp))
         clear z0 z1 z2 z3 f0 f1 f2 f3
         obtain ⟨⟨z0, z1, z2, z3⟩, ⟨f0, f1, f2, f3⟩⟩ := four_facts8 HFW3.out
         clear hk3
         obtain ⟨W4, hW4⟩ : ∃ W4, ((((w3.setCell ⟨w.heap.size + 1, 0, none⟩ (.int .i64 4)).setCell ⟨w.heap.size + 1, 1, none⟩ (.slice none 0 0)).setCell ⟨w.heap.size + 1, 2, none⟩ (.string ⟨(smallL N).toArray⟩)).setCell ⟨w.heap.size + 1, 3, none⟩ (.string ⟨v.toArray⟩)) = W4 := ⟨_, rfl⟩
         have hk4 : Keeps [w.heap.size + 1] w3 W4 := by rw [← hW4]; exact (((((Keeps.refl [w.heap.size + 1] w3).setCell (.inl (by simp)) _).setCell (.inl (by simp)) _).setCell (.inl (by simp)) _).setCell (.inl (by simp)) _)
         have hf4 : W4.heap[w.heap.size + 1]? = some (.cells #[.int .i64 4, .slice none 0 0, .string ⟨(smallL N).toArray⟩, .string ⟨v.toArray⟩] 26 (0, 0)) := by rw [← hW4]; exact (heap_setCell_same _ (w.heap.size + 1) 3 _ _ (.string ⟨v.toArray⟩) (heap_setCell_same _ (w.heap.size + 1) 2 _ _ (.string ⟨(smallL N).toArray⟩) (heap_setCell_same _ (w.heap.size + 1) 1 _ _ (.slice none 0 0) (heap_setCell_same _ (w.heap.size + 1) 0 _ _ (.int .i64 4) HFW3.out))))
         have HFW4 := Lib.hid hf4
         have HKW4 : Hid (Keeps [] w W4) := HKW3.out.trans hk4 (fun x hx => .inr (by simp at hx; omega))
         have HRW4 := Lib.hid (blk_keep HRW3.out hk4 (by simp))
         clear hk4 hf4
         obtain ⟨⟨y0, y1, y2, y3⟩, ⟨g0, g1, g2, g3⟩⟩ := four_facts8 HFW4.out
         have hnl : (smallL N).length ≤ 1000000000 := by rw [smallL_len]; exact hNl
         rcases hu41 with rfl | rfl
         ·have HON : Hid (oneR (2 * (T.drop i).length + 2) d (T.drop i) = shutR (.mk (4 : Nat) [] (smallL N) v) R) := by
           have hb42 : begP [42] R = false := by rw [HRR.out]; simp [begP]
           show _ = _
           rw [HL.out, HLV.out, HV.out]
           dsimp only
           rw [hb42]
           rfl
          have hx41 : ((41 : UInt8).toNat : Int) = 41 := rfl
          have hx41b : (((41 : UInt8).toNat : Int) == 42) = false := rfl
          go_wp2_with fail
          go_meet
          exact ⟨p, (4 : Nat), none, 0, 0, smallL N, v, [], rfl, by omega, leaf_end HFW4.out HRW4.out HKW4.out HON.out HPR.out hnl hvl (by omega)⟩
         ·have hx42 : ((42 : UInt8).toNat : Int) = 42 := rfl
          have hx42b : (((42 : UInt8).toNat : Int) == 42) = true := rfl
          have HR1 : Hid (T.drop (p + 1) = r) := by show _ = _; rw [← List.drop_drop, HPR.out, HRR.out]; rfl
          have hpw : IntKind.i64.wrap ((p : Int) + 1) = ((p + 1 : Nat) : Int) := by rw [IntWalk.i64_in _ (by omega)]; omega
          obtain ⟨W5, hW5⟩ : ∃ W5, W4.setCell ⟨w.heap.size + 1, 0, none⟩ (.int .i64 5) = W5 := ⟨_, rfl⟩
          have hk5 : Keeps [w.heap.size + 1] W4 W5 := by rw [← hW5]; exact (Keeps.refl _ _).setCell (.inl (by simp)) _
          have hf5 : W5.heap[w.heap.size + 1]? = some (.cells #[.int .i64 5, .slice none 0 0, .string ⟨(smallL N).toArray⟩, .string ⟨v.toArray⟩] 26 (0, 0)) := by rw [← hW5]; exact heap_setCell_same _ _ 0 _ _ (.int .i64 5) HFW4.out
          have HFW5 := Lib.hid hf5
          have HKW5 : Hid (Keeps [] w W5) := HKW4.out.trans hk5 (fun x hx => .inr (by simp at hx; omega))
          have HRW5 := Lib.hid (blk_keep HRW4.out hk5 (by simp))
          obtain ⟨⟨x0, x1, x2, x3⟩, ⟨i0, i1, i2, i3⟩⟩ := four_facts8 HFW5.out
          clear hk5 hf5
          by_cases hv0 : v = []
          ·have HON : Hid (oneR (2 * (T.drop i).length + 2) d (T.drop i) = shutR (.mk (6 : Nat) [] (smallL N) v) r) := by
            have hb42 : begP [42] R = true := by rw [HRR.out]; simp [begP]
            show _ = _
            rw [HL.out, HLV.out, HV.out]
            dsimp only
            rw [if_pos hb42, if_pos hv0, HRR.out]
            rfl
           obtain ⟨W6, hW6⟩ : ∃ W6, W5.setCell ⟨w.heap.size + 1, 0, none⟩ (.int .i64 6) = W6 := ⟨_, rfl⟩
           have hk6 : Keeps [w.heap.size + 1] W5 W6 := by rw [← hW6]; exact (Keeps.refl _ _).setCell (.inl (by simp)) _
           have hf6 : W6.heap[w.heap.size + 1]? = some (.cells #[.int .i64 6, .slice none 0 0, .string ⟨(smallL N).toArray⟩, .string ⟨v.toArray⟩] 26 (0, 0)) := by rw [← hW6]; exact heap_setCell_same _ _ 0 _ _ (.int .i64 6) HFW5.out
           have HFW6 := Lib.hid hf6
           have HKW6 : Hid (Keeps [] w W6) := HKW5.out.trans hk6 (fun x hx => .inr (by simp at hx; omega))
           have HRW6 := Lib.hid (blk_keep HRW5.out hk6 (by simp))
           have hve : v.isEmpty = true := by rw [hv0]; rfl
           clear hk6 hf6 hv0
           go_wp2_with fail
           go_meet
           exact ⟨p + 1, (6 : Nat), none, 0, 0, smallL N, v, [], rfl, by omega, leaf_end HFW6.out HRW6.out HKW6.out HON.out HR1.out hnl hvl (by omega)⟩
          ·have HON : Hid (oneR (2 * (T.drop i).length + 2) d (T.drop i) = shutR (.mk (5 : Nat) [] (smallL N) v) r) := by
            have hb42 : begP [42] R = true := by rw [HRR.out]; simp [begP]
            show _ = _
            rw [HL.out, HLV.out, HV.out]
            dsimp only
            rw [if_pos hb42, if_neg hv0, HRR.out]
            rfl
           have hve : v.isEmpty = false := by cases v with | nil => exact absurd rfl hv0 | cons a b => rfl
           clear hv0
           go_wp2_with fail
           go_meet
           exact ⟨p + 1, (5 : Nat), none, 0, 0, smallL N, v, [], rfl, by omega, leaf_end HFW5.out HRW5.out HKW5.out HON.out HR1.out hnl hvl (by omega)⟩
       ·have h61i : ¬ (u.toNat : Int) = 61 := fun h => h61 (UInt8.toNat_inj.1 (by show u.toNat = 61; omega))
        have h61b : ((u.toNat : Int) == 61) = false := by simpa using h61i
        have h61n : ((u.toNat : Int) != 61) = true := by simpa using h61i
        have HU2 : Hid (untP [61] (T.drop (i + 1)) = (untP [61] (T.drop (j + 1))).map (· + (j + 1 - (i + 1)))) := by
         show _ = _
         rw [HU.out, unt_step HUJ.out h61]
         cases untP [61] (T.drop (j + 1)) with
         | none => rfl
         | some q => simp; omega
        clear hu
        go_wp2_with fail
        go_roundw
        case rel => exact ⟨j + 1, by go_num, by omega, by omega, (by first | rfl | trivial), HU2.out⟩
        case measure => simp [intOf]; omega
      ·obtain rfl : j = n := by omega
       have hjj : ¬ (j : Int) < (j : Int) := by omega
       have HNO : Hid (oneR (2 * (T.drop i).length + 2) d (T.drop i) = none) := by
        show _ = _
        rw [HL.out]
        unfold leafR
        rw [HU.out, ← HN.out, List.drop_length]
        rfl
       go_wp2_with fail
       exact FIN.out _ HKW.out HRW.out HNO.out _ rfl rfl
   case rest =>
    obtain ⟨p, k, A, j, c9, s, v, l, rfl, hp, HE⟩ := hcut
    obtain ⟨⟨y0, y1, y2, y3⟩, ⟨g0, g1, g2, g3⟩⟩ := four_facts8 HE.out.box
    have hp0 : (0 : Int) ≤ (p : Int) := by omega
    clear HSIGN HLEAF HKL HKD hsl HREC z0 z1 z2 z3 f0 f1 f2 f3 HFW HRW HKW hat h4
    by_cases hlt : p < n
    ·obtain ⟨u, hu⟩ : ∃ u, T[p]? = some u := ⟨_, List.getElem?_eq_getElem (by have := HN.out; omega)⟩
     have hatp := str_at T p u hu
     have hpi : (p : Int) < (n : Int) := by omega
     have hpj : ¬ (n : Int) ≤ (p : Int) := by omega
     have HBP : Hid (begP [41] (T.drop p) = (u == 41)) := by
      obtain ⟨hj, h9⟩ := List.getElem?_eq_some_iff.1 hu
      show _ = _
      rw [List.drop_eq_getElem_cons hj, h9]; simp [begP]
     clear hu
     by_cases h41 : u = 41
     ·subst h41
      have hx41 : ((41 : UInt8).toNat : Int) = 41 := rfl
      have hx41b : (((41 : UInt8).toNat : Int) != 41) = false := rfl
      have HAL := Lib.hid (fun X => ralone8_is ⟨k, A, j, c9, s, v⟩ X (by have := HE.out.sl; dsimp only; omega) (by have := HE.out.vl; dsimp only; omega))
      unfold FH.val tv at HAL
      dsimp only at HAL
      go_wp2_with fail
      refine (HAL.out _).mono ?_
      rintro e w4 ⟨rfl, hk4⟩
      have HK4 := Lib.hid hk4
      have HRW4 := Lib.hid (blk_keep HE.out.res hk4 (by simp))
      have HFW4 := Lib.hid (blk_keep HE.out.box hk4 (by simp))
      have HKW4 := Lib.hid (HE.out.keep.trans' hk4)
      clear hk4 y0 y1 y2 y3 g0 g1 g2 g3
      obtain ⟨⟨y0, y1, y2, y3⟩, ⟨g0, g1, g2, g3⟩⟩ := four_facts8 HFW4.out
      obtain ⟨⟨r0, r1, r2, r3⟩, ⟨e0, e1, e2, e3⟩⟩ := four_facts8 HRW4.out
      cases hal : aloneH k j s v with
      | false =>
       have HNO := Lib.hid (HE.out.no (.inl hal))
       clear hal
       go_wp2_with fail
       exact FIN.out _ HKW4.out HRW4.out HNO.out _ rfl rfl
      | true =>
       have HAA := Lib.hid hal
       clear hal
       go_wp2_with fail
       have HR6' := heap_setCell_same _ w.heap.size 0 _ _ (.int .i64 k) HRW4.out
       have HR7' := heap_setCell_same _ w.heap.size 1 _ _ (.slice A j c9) HR6'
       have HR8' := heap_setCell_same _ w.heap.size 2 _ _ (.string ⟨s.toArray⟩) HR7'
       have hrow := heap_setCell_same _ w.heap.size 3 _ _ (.string ⟨v.toArray⟩) HR8'
       refine bodyPost_ret (results_fil_tmp rfl _ _ w.heap.size _ (0, 0) rfl rfl hrow) rfl (HE.out.yes HAA.out (by rw [HBP.out]; rfl) HN.out hlt rfl ?_)
       exact (((((HK4.out.mono (cs := [w.heap.size]) (by simp)).setCell (.inl (by simp)) _).setCell (.inl (by simp)) _).setCell (.inl (by simp)) _).setCell (.inl (by simp)) _)
     ·have h41i : ¬ (u.toNat : Int) = 41 := fun h => h41 (UInt8.toNat_inj.1 (by show u.toNat = 41; omega))
      have h41b : ((u.toNat : Int) == 41) = false := by simpa using h41i
      have h41n : ((u.toNat : Int) != 41) = true := by simpa using h41i
      have HNO := Lib.hid (HE.out.no (.inr (by rw [HBP.out]; simpa using h41)))
      obtain ⟨⟨r0, r1, r2, r3⟩, ⟨e0, e1, e2, e3⟩⟩ := four_facts8 HE.out.res
      go_wp2_with fail
      exact FIN.out _ HE.out.keep HE.out.res HNO.out _ rfl rfl
    ·have hpj : (n : Int) ≤ (p : Int) := by omega
     have HNO := Lib.hid (HE.out.no (.inr (by rw [List.drop_eq_nil_of_le (by have := HN.out; omega)]; simp [begP])))
     obtain ⟨⟨r0, r1, r2, r3⟩, ⟨e0, e1, e2, e3⟩⟩ := four_facts8 HE.out.res
     go_wp2_with fail
     exact FIN.out _ HE.out.keep HE.out.res HNO.out _ rfl rfl
/-- The document's one, on any text. -/
theorem rone_is (T : Txt) (hT : T.length ≤ 1000000000) : ∀ (q d i : Nat) (w : World), d + q = 17 → i ≤ T.length → Calls Tryz.prog 32 #[tv T, .int .i64 (i : Int), .int .i64 (d : Int)] w fun e w' => OnQ T i d w e w' := by
 intro q
 induction q with
 | zero => intro d i w hd hi; exact rone_no T hT d i w (by omega) hi (by omega)
 | succ q ih =>
  intro d i w hd hi
  by_cases hc : d ≤ 16 ∧ 2 ≤ (T.drop i).length ∧ begP [40] (T.drop i) = true
  ·obtain ⟨h1, h2, h3⟩ := hc
   have hl : i + 1 < T.length := by simp at h2; omega
   have h40 : T[i]? = some 40 := by
    obtain ⟨r, hr⟩ := (beg_one 40 (T.drop i)).1 h3
    rw [← List.head?_drop, hr]
    rfl
   have hcu : T[i + 1]? = some (T[i + 1]'hl) := List.getElem?_eq_getElem _
   exact rone_in T hT d i _ w h1 (fun p X hp => ih (d + 1) p X (by omega) hp) hl h40 hcu
  ·exact rone_no T hT d i w (by omega) hi hc
end Go.Proofs.YtbfebljahjmjfaaGreatDoor
