
/- dn: each byte may stand in a value, anywhere: the law. -/
import Derived.Test.YtjnibkgbcgpigaaDoorN35
import Derived.Test.YtjnibkgbcgpigaaDoorN33
namespace Go.Proofs.YtjnibkgbcgpigaaDoor
open Go.RowKit Go.Shelf
set_option linter.unusedVariables false
set_option linter.unusedSimpArgs false
set_option maxRecDepth 100000

theorem hexd_plain : ∀ n : Fin 16, plain1 (hexd n.val) = true := by decide +kernel
theorem text_plain (N : Nat) : ∀ (v : List UInt8) (i : Nat), (text6 N i v).all plain1 = true
  | [], _ => rfl
  | c :: v, i => by
    have ih := text_plain N v (i + 1)
    have hc : c.toNat < 256 := c.toNat_lt
    have h1 := hexd_plain ⟨c.toNat / 16, by omega⟩
    have h2 := hexd_plain ⟨c.toNat % 16, by omega⟩
    have h3 : plain1 92 = true := by decide
    rw [text6, List.all_append, ih, Bool.and_true]
    unfold esc6
    split
    · simp [h1, h2, h3]
    · rename_i hp
      split
      · simp [h3, hp]
      · simp [hp]
theorem cn_text (v : List UInt8) : dnT [([99, 110], v)] = [99, 110, 61] ++ text6 v.length 0 v := by
  simp [dnT, Lib.join_one, partT]
theorem cn_plain (v : List UInt8) : (dnT [([99, 110], v)]).all plain1 = true := by
  rw [cn_text, List.all_append, text_plain]
  rfl
theorem cn_ok (v : List UInt8) (h1 : 1 ≤ v.length) (h2 : v.length ≤ 200) : nameOk [([99, 110], v)] = true := by
  have ht : typeOk [99, 110] = true := by decide
  simp [nameOk, partOk, ht, h1, h2]
theorem one_part (w : World) (s v : List UInt8) (t : TypeId) (hs : s.length ≤ 9223372036854775807) (hv : v.length ≤ 9223372036854775807) : DnIn (w.alloc (.cells #[.string ⟨s.toArray⟩, .string ⟨v.toArray⟩] t)) (some ⟨w.heap.size, 0, none⟩) 1 [(s, v)] := by
  refine ⟨rfl, fun p hp => ?_, fun _ => ⟨w.heap.size, 0, rfl, fun i p hi => ?_⟩⟩
  · simp at hp
    subst hp
    exact ⟨hs, hv⟩
  · cases i with
    | zero =>
      simp at hi
      subst hi
      exact two_facts6 (heap_new8 w _)
    | succ i => simp at hi

set_option maxHeartbeats 4000000 in
theorem dnbytes_any (x : UInt8) (a b : List UInt8) (w : World) (ha : a.length ≤ 9223372036854775807) (hb : b.length ≤ 9223372036854775807) (hs : SynAt w) :
    Calls Tryd.prog 8 #[.int .u8 (x.toNat : Int), .string ⟨a.toArray⟩, .string ⟨b.toArray⟩] w fun e w' => e = .returned (.bool true) ∧ Below w.heap.size w w' := by
  have HKN := Lib.hid (fun X (hk : Keeps [] w X) => known6_is X (hs.keep hk (by simp)))
  have HS := Lib.hid (fun X (hk : Keeps [] w X) => hs.keep hk (by simp))
  have hx : x.toNat < 256 := x.toNat_lt
  clear hs
  rcases Nat.lt_or_ge 20 a.length with h1 | h1
  · have h2 : (20 : Int) < (a.length : Int) := by omega
    clear h1 ha hb
    go_enter Tryd.func8, Tryd.ntmps8
    go_wp2_with fail
    refine (HKN.out _ (Keeps.refl _ _)).mono ?_
    rintro e w1 ⟨rfl, hk⟩
    have HK := Lib.hid hk
    clear hk
    go_wp2_with fail
    go_ret
    exact ⟨rfl, HK.out.below (Nat.le_refl _) (by simp)⟩
  have h2 : ¬ (20 : Int) < (a.length : Int) := by omega
  rcases Nat.lt_or_ge 20 b.length with h3 | h3
  · have h4 : (20 : Int) < (b.length : Int) := by omega
    have h4b : decide ((20 : Int) < (b.length : Int)) = true := by simp; omega
    clear h1 ha hb h3
    go_enter Tryd.func8, Tryd.ntmps8
    go_wp2_with fail
    refine (HKN.out _ (Keeps.refl _ _)).mono ?_
    rintro e w1 ⟨rfl, hk⟩
    have HK := Lib.hid hk
    clear hk
    go_wp2_with fail
    go_ret
    exact ⟨rfl, HK.out.below (Nat.le_refl _) (by simp)⟩
  have h4b : decide ((20 : Int) < (b.length : Int)) = false := by simp; omega
  have h4 : ¬ (20 : Int) < (b.length : Int) := by omega
  have hcv := one_text w (x.toNat : Int) (by omega)
  rw [show UInt8.ofNat ((x.toNat : Int).toNat) = x from by simp] at hcv
  obtain ⟨v1, hv1⟩ : ∃ v1, a ++ [x] = v1 := ⟨_, rfl⟩
  obtain ⟨v, hv⟩ : ∃ v, v1 ++ b = v := ⟨_, rfl⟩
  have hl1 : v1.length = a.length + 1 := by rw [← hv1]; simp
  have hl2 : v.length = v1.length + b.length := by rw [← hv]; simp
  have hca : ∀ W, (Op.stringOp .add ⟨a.toArray⟩ ⟨#[x]⟩).run Tryd.prog W = .ok (.string ⟨v1.toArray⟩) W := fun W => by
    rw [← hv1]; exact cat_is a [x] (by simp; omega) W
  have hcb : ∀ W, (Op.stringOp .add ⟨v1.toArray⟩ ⟨b.toArray⟩).run Tryd.prog W = .ok (.string ⟨v.toArray⟩) W := fun W => by
    rw [← hv]; exact cat_is v1 b (by omega) W
  have hok := cn_ok v (by omega) (by omega)
  have HOK := Lib.hid hok
  have HTX := Lib.hid (text_yes (some ⟨(w.alloc (.cells #[.int .u8 (x.toNat : Int)] 5)).heap.size, 0, none⟩) 1 1 [([99, 110], v)] ((w.alloc (.cells #[.int .u8 (x.toNat : Int)] 5)).alloc (.cells #[.string ⟨#[99, 110]⟩, .string ⟨v.toArray⟩] 38)) (one_part (w.alloc (.cells #[.int .u8 (x.toNat : Int)] 5)) [99, 110] v 38 (by simp) (by omega)) hok)
  rw [show (w.alloc (.cells #[.int .u8 (x.toNat : Int)] 5)).heap.size = w.heap.size + 1 from by simp only [World.alloc, Array.size_push]] at HTX
  have htl := dnT_len hok
  have hpl := cn_plain v
  obtain ⟨T, hT⟩ : ∃ T, dnT [([99, 110], v)] = T := ⟨_, rfl⟩
  have hpt : parseL T = some [([99, 110], v)] := by rw [← hT]; exact parse_text hok
  rw [hT] at HTX htl hpl
  have HPA := Lib.hid (fun X (hk : Keeps [] w X) => parse_is T X (by omega) (HS.out X hk))
  have HPT := Lib.hid hpt
  have HPL := Lib.hid hpl
  clear ha hb hv1 hv hl1 hl2 hok hT hpt hpl h1 h3
  go_enter Tryd.func8, Tryd.ntmps8
  go_wp2_with fail
  refine HTX.out.mono ?_
  rintro e w1 ⟨rfl, hk1⟩
  have HK1 : Hid (Keeps [] w w1) := (((Keeps.refl [] w).alloc (.cells #[.int .u8 (x.toNat : Int)] 5)).alloc (.cells #[.string ⟨#[99, 110]⟩, .string ⟨v.toArray⟩] 38)).trans' hk1
  clear hk1 hcv
  go_wp2_with fail
  obtain ⟨n, hn⟩ : ∃ n, T.length = n := ⟨_, rfl⟩
  have HN := Lib.hid hn
  have hTL : (⟨T.toArray⟩ : ByteArray).size = n := hn
  rw [hn] at htl
  clear hn
  obtain ⟨V, hV⟩ : ∃ V : World, V = w1 := ⟨_, rfl⟩
  subst hV
  go_loopw [10] (fun i wr => ∃ j : Nat, i = .int .i64 (j : Int) ∧ j ≤ n ∧ wr = V) (fun i _ => n - (intOf i).toNat)
  case atStart => exact ⟨0, rfl, Nat.zero_le _, rfl⟩
  case round =>
    obtain ⟨j, rfl, hj, rfl⟩ := hrel
    by_cases hlt : j < n
    · obtain ⟨u, hu⟩ : ∃ u, T[j]? = some u := ⟨_, List.getElem?_eq_getElem (by rw [HN.out]; exact hlt)⟩
      have hix := str_at T j u hu
      have hpu : plain1 u = true := List.all_eq_true.1 HPL.out u (List.mem_of_getElem? hu)
      unfold plain1 at hpu
      simp only [Bool.and_eq_true, decide_eq_true_eq] at hpu
      obtain ⟨hp1, hp2⟩ := hpu
      have g1 : ¬ (u.toNat : Int) < 32 := by omega
      have g2 : ¬ (126 : Int) < (u.toNat : Int) := by omega
      have g2b : decide ((126 : Int) < (u.toNat : Int)) = false := by simp; omega
      have hjl : (j : Int) < (n : Int) := by omega
      clear hu hp1 hp2
      go_wp2_with fail
      go_roundw
      case rel => exact ⟨j + 1, by go_num, by omega, trivial⟩
      case measure => simp [intOf]; omega
    · have hjl : ¬ (j : Int) < (n : Int) := by omega
      go_wp2_with fail
      refine (HPA.out _ HK1.out).mono ?_
      rintro e w2 ⟨hq1, _, hk2⟩
      obtain ⟨A, m, c, rfl, hm, hd⟩ := hq1 _ HPT.out
      have hm1 : 1 = m := hd.1
      subst hm1
      obtain ⟨bb, o, rfl, hc⟩ := hd.2.2 (by omega)
      obtain ⟨c0, c1⟩ := hc 0 _ rfl
      unfold tv at c0 c1
      simp only [Nat.zero_mul, Nat.add_zero] at c0 c1
      have HK2 := Lib.hid (HK1.out.trans' hk2)
      clear hk2 hc hq1 hd hm
      go_wp2_with fail
      refine (HKN.out _ HK2.out).mono ?_
      rintro e w3 ⟨rfl, hk3⟩
      have HK3 := Lib.hid (HK2.out.trans' hk3)
      clear hk3
      go_wp2_with fail
      go_ret
      exact ⟨rfl, HK3.out.below (Nat.le_refl _) (by simp)⟩

theorem dnbytes_row (n : Nat) (hn : n < 256) (a b : List UInt8) (w : World) (ha : a.length ≤ 9223372036854775807) (hb : b.length ≤ 9223372036854775807) (hs : SynAt w) :
    Calls Tryd.prog 8 #[.int .u8 (n : Int), .string ⟨a.toArray⟩, .string ⟨b.toArray⟩] w fun e w' => e = .returned (.bool true) ∧ Below w.heap.size w w' := by
  have h := dnbytes_any (UInt8.ofNat n) a b w ha hb hs
  rwa [show (UInt8.ofNat n).toNat = n from by rw [UInt8.toNat_ofNat']; omega] at h

end Go.Proofs.YtjnibkgbcgpigaaDoor
