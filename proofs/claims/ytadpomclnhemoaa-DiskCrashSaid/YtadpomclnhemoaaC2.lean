/- DiskCrash: its rounds. -/
import Derived.Test.YtadpomclnhemoaaC1
import Derived.Test.YtadpomclnhemoaaD22
import Derived.Deep.QuietTactic
import Derived.BigQuiet
namespace Go.Proofs.Ytadpomclnhemoaa
open Go.RowKit
set_option linter.unusedVariables false

/-- What the loop of DiskCrash keeps. -/
def CL (w0 : World) (size j : Nat) (p : Nat) (la tv : Value) (wr : World) : Prop :=
  ∃ k A c t T, k.p = p ∧ la = .slice A size c ∧ tv = .slice (some ⟨t, 0, none⟩) size size ∧ CI w0 size j wr k la t T ∧ Covers T (wdat k.W)

theorem CL.intro {w0 : World} {size j p : Nat} {wr : World} {k : Dk} {A : Option Addr} {c t : Nat} {T : List Bool} (hp : k.p = p) (h : CI w0 size j wr k (.slice A size c) t T) (hc : Covers T (wdat k.W)) : CL w0 size j p (.slice A size c) (.slice (some ⟨t, 0, none⟩) size size) wr :=
  ⟨k, A, c, t, T, hp, rfl, rfl, h, hc⟩

theorem CI.synced {w0 wr w2 w3 w4 : World} {size j : Nat} {k k' : Dk} {la : Value} {t : Nat} {T : List Bool} (h : CI w0 size j wr k la t T) (hg : Goes wr k w2 k') (hd : k'.dat = k.dat.sync) (hW : k'.W.length = 0) {A : Option Addr} {c : Nat}
    (ho : w3.ownsRow w2.heap.size 5 1 (.slice A size c) size (((k'.S.drop 0).take size).map bv)) (hb : Below w2.heap.size w2 w3)
    (ht : w4.ownsRow 0 4 1 (.slice (some ⟨w3.heap.size, 0, none⟩) size size) size (madeCells (Value.bool false).cells (size * 1)).toList) (hg4 : w3.grownBy w4 none) :
    CL w0 size (j + 1) k.p (.slice A size c) (.slice (some ⟨w3.heap.size, 0, none⟩) size size) w4 := by
  have hk1 : Keeps [] w2 w3 := Keeps.of_below hb
  have hk2 : Keeps [] w3 w4 := Keeps.of_grown hg4 (by simp)
  have hW' : k'.W = [] := List.eq_nil_of_length_eq_zero hW
  have hok : k'.dat.ok := by rw [hd]; exact ok_sync h.ok
  have hLS : k'.L = k'.S := by unfold Dat.ok at hok; simp only [Dk.dat, hW'] at hok; exact hok.symm
  have hz := h.keeps.size
  have hz0 := hg.keeps.size
  have hz1 := hb.size
  have hS : k'.S.length = size := by rw [dat_S hd]; exact h.many
  refine CL.intro (k := k') (T := List.replicate size false) hg.p ⟨hg.disk.grow (hk1.trans' hk2), hg.newer h.keeps.size h.new, (h.keeps.trans hg.keeps (fun x hx => .inr (h.new x (fp_sub hx)))).trans' (hk1.trans' hk2), hS, hok, ?_, ?_, made_bools ht, by omega, fun hm => ?_, by omega, ?_⟩ ?_
  · rw [hLS]
    have e : (k'.S.drop 0).take size = k'.S := by rw [List.drop_zero, List.take_of_length_le (by omega)]
    rw [e] at ho
    exact own_keep (ho.mono (Nat.zero_le _)) hk2 (by simp)
  · intro b hb'
    obtain ⟨a1, a2⟩ := ho.lt b hb'
    exact ⟨by omega, fun hm => by have := hg.disk.lt b hm; omega, by omega⟩
  · have := hg.disk.lt _ hm
    omega
  · rw [dat_done hd]
    have := h.done
    show k.done + 1 ≤ j + 1
    omega
  · intro x hx; rw [hW'] at hx; simp [wdat] at hx

theorem CI.start {w w1 w2 w3 : World} {size : Nat} {k : Dk} (h1 : 1 ≤ size) (hd : DiskAt w1 k) (hS : k.S = List.replicate size 0) (hL : k.L = List.replicate size 0) (hW : k.W = []) (h0 : k.done = 0) (hn : ∀ b ∈ k.all, w.heap.size ≤ b) (hk : Keeps [] w w1)
    (ho2 : w2.ownsRow 0 5 1 (.slice (some ⟨w1.heap.size, 0, none⟩) size size) size (madeCells (Value.int .u8 0).cells (size * 1)).toList) (hg2 : w1.grownBy w2 none)
    (ho3 : w3.ownsRow 0 4 1 (.slice (some ⟨w2.heap.size, 0, none⟩) size size) size (madeCells (Value.bool false).cells (size * 1)).toList) (hg3 : w2.grownBy w3 none) :
    CL w size 0 k.p (.slice (some ⟨w1.heap.size, 0, none⟩) size size) (.slice (some ⟨w2.heap.size, 0, none⟩) size size) w3 := by
  have k2 : Keeps [] w1 w2 := Keeps.of_grown hg2 (by simp)
  have k3 : Keeps [] w2 w3 := Keeps.of_grown hg3 (by simp)
  have z1 := hk.size
  have z2 : w1.heap.size < w2.heap.size := (ho2.lt _ rfl).2
  refine CL.intro (k := k) (T := List.replicate size false) rfl ⟨hd.grow (k2.trans' k3), hn, hk.trans' (k2.trans' k3), by rw [hS]; simp, ?_, ?_, ?_, made_bools ho3, by omega, fun hm => ?_, by rw [hW]; simp, by omega⟩ ?_
  · unfold Dat.ok; simp only [Dk.dat, hW, hS, hL]; rfl
  · rw [hL]; exact own_keep (made_own ho2) k3 (by simp)
  · intro b hb
    simp only [Value.ownBlock, Option.some.injEq] at hb
    subst hb
    exact ⟨z1, fun hm => by have := hd.lt _ hm; omega, by omega⟩
  · have := hd.lt _ hm; omega
  · intro x hx; rw [hW] at hx; simp [wdat] at hx

theorem CI.wrote {w0 wr w2 : World} {size j off : Nat} {k k' : Dk} {la : Value} {t : Nat} {T : List Bool} {bs : List UInt8} (h : CI w0 size j wr k la t T) (hg : Goes wr k w2 k') (hd : k'.dat = k.dat.write off bs) (hW : k'.W.length = k.W.length + 1) (hf : off + bs.length ≤ k.S.length) : CI w0 size (j + 1) w2 k' la t T := by
  refine h.goes hg ?_ ?_ ?_ (by omega) ?_
  · rw [dat_S hd]; exact length_laid hf
  · have : k'.dat.L = (k.dat.write off bs).L := by rw [hd]
    exact this
  · rw [hd]; exact ok_write h.ok off bs
  · rw [dat_done hd]; exact Nat.le_refl _

theorem CI.tick {w0 wr : World} {size j off c : Nat} {k : Dk} {la : Value} {t : Nat} {T : List Bool} (h : CI w0 size j wr k la t (marked T off c)) : CI w0 size j (wr.setCell ⟨t, off + c, none⟩ (.bool true)) k la t (marked T off (c + 1)) := by
  have hs := h.tou.stored (off + c) (.bool true)
  refine h.mark (Keeps.of_grown hs.2 (by simp)) ?_
  have e : ((marked T off c).map Value.bool).set (off + c) (.bool true) = (marked T off (c + 1)).map Value.bool := by simp [marked, List.map_set]
  rw [← e]
  exact hs.1

theorem CI.spot {w0 wr : World} {size j i : Nat} {k : Dk} {la : Value} {t : Nat} {T : List Bool} (h : CI w0 size j wr k la t T) (hi : i < size) : ∃ b, wr.cell? ⟨t, i, none⟩ = some (.bool b) := by
  have hl : T.length = size := by have := h.tou.1; simpa using this
  rw [h.tou.cellAt i (by omega), List.getElem?_map, List.getElem?_eq_getElem (by omega)]
  exact ⟨_, rfl⟩

theorem covers_wrote {w0 wr : World} {size j off : Nat} {k k' : Dk} {la : Value} {t : Nat} {T : List Bool} {bs : List UInt8} (h : CI w0 size j wr k la t T) (hc : Covers T (wdat k.W)) (hd : k'.dat = k.dat.write off bs) (hf : off + bs.length ≤ size) : Covers (marked T off bs.length) (wdat k'.W) := by
  have hl : T.length = size := by have := h.tou.1; simpa using this
  have e : wdat k'.W = wdat k.W ++ [(off, bs)] := by
    have : k'.dat.W = (k.dat.write off bs).W := by rw [hd]
    exact this
  rw [e]
  exact covers_write hc (by omega)

/-- Three crashes' disks, read whole. -/
theorem CI.torn_len {w0 wr : World} {size j : Nat} {k : Dk} {la : Value} {t : Nat} {T : List Bool} (h : CI w0 size j wr k la t T) {k' : Dk} {keep torn : Int} (hd : k'.dat = k.dat.crash keep torn) {w' : World} (hk : DiskAt w' k') : k'.S.length = size := by
  have hf : ∀ x ∈ k.dat.W, x.1 + x.2.length ≤ size := by
    have := wdat_fit h.disk
    rw [h.many] at this
    exact this
  have hL : k.dat.L.length = size := by have := h.disk.len; rw [h.many] at this; exact this
  rw [dat_S hd]
  show (tornOf k.dat keep torn).length = size
  have hl : ∀ K, (layAll k.dat.L (k.dat.W.take K)).length = size := fun K => length_layAll hL fun x hx => hf x (List.mem_of_mem_take hx)
  unfold tornOf
  split
  · exact hl _
  · rename_i x hx
    have hm := hf x (List.mem_of_getElem? hx)
    rw [length_laid, hl]
    rw [hl]; simp; omega

set_option maxRecDepth 100000 in
set_option maxHeartbeats 8000000 in
theorem diskcrash_try (size : Nat) (A : Option Addr) (len c : Nat) (l : List ActD) (keep torn : Int) (w : World) (h1 : 1 ≤ size) (h2 : size ≤ 300) (h3 : len ≤ 40) (hl : ActsAt w A len l) (hall : (l.all fun x => decide (x.bs.length ≤ 100)) = true) (hk : i64 keep) (ht : i64 torn) :
    Calls Try.prog 5 #[.int .i64 (size : Int), .slice A len c, .agg #[.int .i64 keep, .int .i64 torn]] w fun e w' => e = .returned (.bool true) ∧ Below w.heap.size w w' := by
  have HL := Lib.hid hl
  have HA := Lib.hid hall
  have HK := Lib.hid hk
  have HT := Lib.hid ht
  obtain ⟨iu, hiu, hzu0, hzu1, hzu2⟩ := info_parts u8_info
  obtain ⟨ib, hib, hzb0, hzb1, hzb2⟩ := info_parts bool_info
  have bu : iu.bytes * size ≤ 281474976710656 := by rw [hzu2]; omega
  have bb : ib.bytes * size ≤ 281474976710656 := by rw [hzb2]; omega
  have hm : size ≤ maxLen := by unfold maxLen; omega
  have FW : ∀ W : World, Keeps [] w W → Hid (Calls Try.prog 9 #[.int .i64 (size : Int), .slice A len c] W fun e w' => e = .returned (.bool true) ∧ W = w') := by
    intro W hW
    have := few_in (size : Int) A len c l W (by omega) (by omega) (hl.keep hW)
    rw [hall] at this
    exact this
  have HF := Lib.hid FW
  clear hl hall hk ht FW
  go_enter Try.func5, Try.ntmps5
  go_wp2_with fail
  refine (HF.out _ ((Keeps.refl [] w).alloc _)).out.mono ?_
  rintro e w' ⟨rfl, rfl⟩
  go_wp2_with fail
  refine (new_yes size _ h1 (by omega)).mono ?_
  rintro e w1 ⟨k, rfl, hd1, hS1, hL1, hW1, hl1, hf1, ho1, hn1, hk1⟩
  have K1 := Lib.hid hk1
  have hbx := (hk1.block w.heap.size (by simp) (by simp)).trans (heap_alloc_new w (.cells #[.int .i64 keep, .int .i64 torn] 38))
  have HBX := Lib.hid hbx
  have HD1 := Lib.hid (And.intro hd1 (And.intro hS1 (And.intro hL1 (And.intro hW1 (And.intro hl1 (And.intro hf1 (And.intro ho1 hn1)))))))
  clear hd1 hS1 hL1 hW1 hl1 hf1 ho1 hn1 hk1 hbx HF
  have tok1 : True := trivial
  go_wp2_with (first
    | (at_make; have _t := tok1; refine wpList_make_full _ rfl _ _ _ rfl 0 5 iu (.int .u8 0) 1 Try.underlying29 hiu hzu0 hzu1 .i64 .i64 _ _ size rfl rfl rfl rfl bu hm (Nat.zero_le _) ?_; intro w2 ho2 hg2; have HO2 := Lib.hid ho2; have HG2 := Lib.hid hg2; clear ho2 hg2 tok1)
    | (at_make; refine wpList_make_full _ rfl _ _ _ rfl 0 4 ib (.bool false) 1 Try.underlying47 hib hzb0 hzb1 .i64 .i64 _ _ size rfl rfl rfl rfl bb hm (Nat.zero_le _) ?_; intro w3 ho3 hg3; have HO3 := Lib.hid ho3; have HG3 := Lib.hid hg3; clear ho3 hg3))
  have HC0 : Hid (CL (w.alloc (.cells #[.int .i64 keep, .int .i64 torn] 38)) size 0 k.p (.slice (some ⟨w1.heap.size, 0, none⟩) size size) (.slice (some ⟨w2.heap.size, 0, none⟩) size size) w3) := by
    obtain ⟨hd1, hS1, hL1, hW1, hl1, hf1, ho1, hn1⟩ := HD1.out
    exact CI.start h1 hd1 hS1 hL1 hW1 ho1 hn1 K1.out HO2.out HG2.out HO3.out HG3.out
  have HB3 : Hid (w3.heap[w.heap.size]? = some (.cells #[.int .i64 keep, .int .i64 torn] 38 (0, 0)) ∧ Keeps [] w1 w3) := by
    have k2 : Keeps [] w1 w2 := Keeps.of_grown HG2.out (by simp)
    have k3 : Keeps [] w2 w3 := Keeps.of_grown HG3.out (by simp)
    exact ⟨((k2.trans' k3).block _ (lt_of_heap HBX.out) (by simp)).trans HBX.out, k2.trans' k3⟩
  generalize k.p = p at *
  clear HO2 HG2 HO3 HG3 HD1 bu hiu hzu0 hzu1 hzu2
  go_loopw [9, 10, 11] (fun la tv i wr => ∃ j : Nat, i = .int .i64 (j : Int) ∧ j ≤ len ∧ Hid (CL (w.alloc (.cells #[.int .i64 keep, .int .i64 torn] 38)) size j p la tv wr)) (fun _ _ i _ => len - (intOf i).toNat)
  case atStart => exact ⟨0, rfl, Nat.zero_le _, HC0⟩
  case round =>
    obtain ⟨j, rfl, hj, HJ⟩ := hrel
    obtain ⟨k, AL, cL, t, T, hp, rfl, rfl, hci, hcov⟩ := HJ.out
    subst hp
    have HI := Lib.hid hci
    have HCV := Lib.hid hcov
    clear hci hcov HJ
    by_cases hlt : j < len
    · have hll := HL.out.len
      have hx : l[j]? = some (l[j]'(by omega)) := List.getElem?_eq_getElem (by omega)
      obtain ⟨b, o, hA, ho⟩ := HL.out.at_ j _ hx
      have hx100 := List.all_eq_true.1 HA.out _ (List.mem_of_getElem? hx)
      generalize l[j]'(by omega) = x at *
      simp only [decide_eq_true_eq] at hx100
      subst hA
      have ho' := ho.keep (((Keeps.refl [] w).alloc _).trans' HI.out.keeps)
      have x0 := ho'.c0
      have x1 := ho'.c1
      have x2 := ho'.c2
      have x3 := ho'.c3
      have x4 := ho'.c4
      have x5 := ho'.c5
      have HX := Lib.hid ho'
      clear hx ho ho' hll
      have HG := Lib.hid (HI.out.grow ((Keeps.refl [] wr).alloc (.cells #[.int .i64 x.kind, .int .i64 x.at_, .int .i64 x.n, .slice x.A x.bs.length x.c, .int .i64 x.keep, .int .i64 x.torn] 40)))
      have hwt := HI.out.wait
      have hdn := HI.out.done
      have hmn := HI.out.many
      by_cases hk1 : x.kind = 1
      · have e1 : (x.kind == 1) = true := by simp; omega
        clear hk1
        by_cases hr : wErr k.dat x.at_ x.bs.length = 0
        · have WO := Lib.hid (write_ok k x.at_ x.A x.bs.length x.c x.bs (wr.alloc (.cells #[.int .i64 x.kind, .int .i64 x.at_, .int .i64 x.n, .slice x.A x.bs.length x.c, .int .i64 x.keep, .int .i64 x.torn] 40)) HG.out.disk rfl (HX.out.bytes.grow ((Keeps.refl [] wr).alloc _)) hr (by omega) (by omega))
          clear hr
          go_wp2_with fail
          refine WO.out.mono ?_
          rintro e w2 ⟨rfl, off, k', hat, hfo, hg, hd, hwl⟩
          have hbB := (hg.keeps.block wr.heap.size (by simp) (fun hm => by have := HI.out.disk.lt _ (fp_sub hm); omega)).trans (heap_alloc_new wr (.cells #[.int .i64 x.kind, .int .i64 x.at_, .int .i64 x.n, .slice x.A x.bs.length x.c, .int .i64 x.keep, .int .i64 x.torn] 40))
          rw [hat] at hbB
          have HI2 := Lib.hid (HG.out.wrote hg hd hwl hfo)
          have HCV2 := Lib.hid (covers_wrote HI.out HCV.out hd (by omega))
          have htB : t < wr.heap.size := (HI.out.tou.lt t rfl).2
          have HP2 := Lib.hid hg.p
          have HBB := Lib.hid hbB
          clear hg hd hwl hat WO hbB x0 x1 x2 x3 x4 x5 HG HI
          obtain ⟨wo, rfl⟩ : ∃ wo : World, wo = wr := ⟨_, rfl⟩
          go_wp2_with fail
          go_loopw [13] (fun i2 wr2 => ∃ c2 : Nat, i2 = .int .i64 (c2 : Int) ∧ c2 ≤ x.bs.length ∧ Hid (CI (w.alloc (.cells #[.int .i64 keep, .int .i64 torn] 38)) size (j + 1) wr2 k' (.slice AL size cL) t (marked T off c2)) ∧ Hid (wr2.heap[wo.heap.size]? = some (.cells #[.int .i64 x.kind, .int .i64 (off : Int), .int .i64 x.n, .slice x.A x.bs.length x.c, .int .i64 x.keep, .int .i64 x.torn] 40 (0, 0)))) (fun i2 _ => x.bs.length - (intOf i2).toNat)
          case atStart => exact ⟨0, rfl, Nat.zero_le _, HI2, HBB⟩
          case round =>
            obtain ⟨c2, rfl, hc2, HI3, HB4⟩ := hrel
            have y1 := cell_of_blk HB4.out 1
            have y3 := cell_of_blk HB4.out 3
            simp at y1 y3
            by_cases hlt2 : c2 < x.bs.length
            · obtain ⟨bb2, z1⟩ := HI3.out.spot (show off + c2 < size by omega)
              have z2 := HI3.out.tou.frozenAt (off + c2)
              have HT4 := Lib.hid HI3.out.tick
              have HB5 := fun v => Lib.hid ((Below.heap_setCell wr ⟨t, off + c2, none⟩ v wo.heap.size (show wo.heap.size ≠ t by omega)).trans HB4.out)
              have g1 : (off : Int) + (c2 : Int) < (size : Int) := by omega
              have g2 : 0 ≤ (off : Int) + (c2 : Int) := by omega
              go_wp2_with fail
              go_roundw
              case rel => exact ⟨c2 + 1, by go_num, by omega, HT4, HB5 _⟩
              case measure => simp [intOf]; omega
            · have hcc : c2 = x.bs.length := by omega
              subst hcc
              go_wp2_with fail
              go_roundw
              case rel => exact ⟨j + 1, by go_num, by omega, CL.intro HP2.out HI3.out HCV2.out⟩
              case measure => simp [intOf]; omega
        · have WN := Lib.hid (write_no k x.at_ x.A x.bs.length x.c _ (wr.alloc (.cells #[.int .i64 x.kind, .int .i64 x.at_, .int .i64 x.n, .slice x.A x.bs.length x.c, .int .i64 x.keep, .int .i64 x.torn] 40)) HG.out.disk HX.out.len rfl hr)
          have hr0 : (wErr k.dat x.at_ x.bs.length == 0) = false := by simpa using hr
          generalize wErr k.dat x.at_ x.bs.length = r at *
          clear hr
          go_wp2_with fail
          refine WN.out.mono ?_
          rintro e w' ⟨rfl, rfl⟩
          clear WN
          go_wp2_with fail
          go_roundw
          case rel => exact ⟨j + 1, by go_num, by omega, CL.intro rfl HG.out.later HCV.out⟩
          case measure => simp [intOf]; omega
      by_cases hk2 : x.kind = 2
      · have e1 : (x.kind == 1) = false := by simp; omega
        have e2 : (x.kind == 2) = true := by simp; omega
        clear hk1 hk2
        by_cases hz : k.left = 0
        · have SN := Lib.hid (sync_stop k _ HG.out.disk hz)
          clear hz
          go_wp2_with fail
          refine SN.out.mono ?_
          rintro e w2 ⟨rfl, hk2⟩
          have HG2 := Lib.hid (HG.out.later.grow hk2)
          clear SN hk2
          go_wp2_with fail
          go_roundw
          case rel => exact ⟨j + 1, by go_num, by omega, CL.intro rfl HG2.out HCV.out⟩
          case measure => simp [intOf]; omega
        · have SN := Lib.hid (sync_yes k _ HG.out.disk hz (by omega) (by omega))
          clear hz
          go_wp2_with fail
          refine SN.out.mono ?_
          rintro e w2 ⟨rfl, k', hg, hd, hW0⟩
          have hSk : k'.S = k.S := dat_S hd
          have HS2 := Lib.hid (And.intro hg (And.intro hd hW0))
          have RD := Lib.hid (read_yes k' 0 size w2 hg.disk (by rw [hSk]; omega))
          rw [hg.p] at RD
          clear SN hg hd hW0 hSk
          go_wp2_with fail
          refine RD.out.mono ?_
          rintro e w3 ⟨A3, c3, rfl, ho3, hb3⟩
          have HO3 := Lib.hid ho3
          have HB3' := Lib.hid hb3
          clear RD ho3 hb3
          go_wp2_with (first
            | (at_make; refine wpList_make_full _ rfl _ _ _ rfl 0 4 ib (.bool false) 1 Try.underlying47 hib hzb0 hzb1 .i64 .i64 _ _ size rfl rfl rfl rfl bb hm (Nat.zero_le _) ?_; intro w4 ho4 hg4; have HO4 := Lib.hid ho4; have HG4 := Lib.hid hg4; clear ho4 hg4))
          go_roundw
          case rel => exact ⟨j + 1, by go_num, by omega, HG.out.synced HS2.out.1 HS2.out.2.1 HS2.out.2.2 HO3.out HB3'.out HO4.out HG4.out⟩
          case measure => simp [intOf]; omega
      by_cases hk3 : x.kind = 3
      · have e1 : (x.kind == 1) = false := by simp; omega
        have e2 : (x.kind == 2) = false := by simp; omega
        have e3 : (x.kind == 3) = true := by simp; omega
        clear hk1 hk2 hk3
        go_wp2_with fail
        refine (arm_goes k x.n _ HG.out.disk HX.out.i2).mono ?_
        rintro e w2 ⟨rfl, hg⟩
        have HG2 := Lib.hid (HG.out.goes hg rfl rfl HG.out.ok (Nat.le_succ _) (Nat.le_succ _))
        clear hg
        go_wp2_with fail
        go_roundw
        case rel => exact ⟨j + 1, by go_num, by omega, CL.intro (k := k.nums k.lim (max x.n (-1)) k.done) rfl HG2.out HCV.out⟩
        case measure => simp [intOf]; omega
      by_cases hk4 : x.kind = 4
      · have e1 : (x.kind == 1) = false := by simp; omega
        have e2 : (x.kind == 2) = false := by simp; omega
        have e3 : (x.kind == 3) = false := by simp; omega
        have e4 : (x.kind == 4) = true := by simp; omega
        clear hk1 hk2 hk3 hk4
        by_cases hn : x.n < 0 ∨ (k.S.length : Int) < x.n
        · have LN := Lib.hid (limit_no k x.n _ HG.out.disk hn)
          clear hn
          go_wp2_with fail
          refine LN.out.mono ?_
          rintro e w' ⟨rfl, rfl⟩
          clear LN
          go_wp2_with fail
          go_roundw
          case rel => exact ⟨j + 1, by go_num, by omega, CL.intro rfl HG.out.later HCV.out⟩
          case measure => simp [intOf]; omega
        · obtain ⟨m, hm2⟩ := Int.eq_ofNat_of_zero_le (show 0 ≤ x.n by omega)
          have LN := Lib.hid (limit_goes k m _ HG.out.disk (by omega))
          rw [show ((m : Nat) : Int) = x.n from hm2.symm] at LN
          clear hn hm2
          go_wp2_with fail
          refine LN.out.mono ?_
          rintro e w2 ⟨rfl, hg⟩
          have HG2 := Lib.hid (HG.out.goes hg rfl rfl HG.out.ok (Nat.le_succ _) (Nat.le_succ _))
          clear hg LN
          go_wp2_with fail
          go_roundw
          case rel => exact ⟨j + 1, by go_num, by omega, CL.intro (k := k.nums m k.left k.done) rfl HG2.out HCV.out⟩
          case measure => simp [intOf]; omega
      have e1 : (x.kind == 1) = false := by simp; omega
      have e2 : (x.kind == 2) = false := by simp; omega
      have e3 : (x.kind == 3) = false := by simp; omega
      have e4 : (x.kind == 4) = false := by simp; omega
      clear hk1 hk2 hk3 hk4
      go_wp2_with fail
      go_roundw
      case rel => exact ⟨j + 1, by go_num, by omega, CL.intro rfl HG.out.later HCV.out⟩
      case measure => simp [intOf]; omega
    · have hsz1 := HI.out.many
      have hwt := HI.out.wait
      have RD := Lib.hid (read_all k size k.S wr HI.out.disk hsz1 rfl)
      go_wp2_with fail
      refine RD.out.mono ?_
      rintro e w4 ⟨A4, c4, rfl, b4, k4⟩
      have HI4 := Lib.hid (HI.out.grow k4)
      have B4 := Lib.hid b4
      have CR := Lib.hid (crash_yes k 0 0 w4 HI4.out.disk (by omega) (by omega) (by omega))
      clear RD b4 k4
      go_wp2_with fail
      refine CR.out.mono ?_
      rintro e w5 ⟨kn, rfl, d5, t5, n5, k5⟩
      have HI5 := Lib.hid (HI4.out.grow k5)
      have B5 := Lib.hid (B4.out.grow k5)
      have D5 := Lib.hid (And.intro d5 t5)
      have CR := Lib.hid (crash_yes k (-1) 0 w5 HI5.out.disk (by omega) (by omega) (by omega))
      clear d5 t5 n5 k5
      go_wp2_with fail
      refine CR.out.mono ?_
      rintro e w6 ⟨ka, rfl, d6, t6, n6, k6⟩
      have HI6 := Lib.hid (HI5.out.grow k6)
      have B6 := Lib.hid (B5.out.grow k6)
      have D5' := Lib.hid (And.intro (D5.out.1.grow k6) D5.out.2)
      have D6 := Lib.hid (And.intro d6 t6)
      have CR := Lib.hid (crash_yes k keep torn w6 HI6.out.disk HK.out HT.out (by omega))
      have hbx6 := (HI6.out.keeps.block w.heap.size (by simp) (by simp)).trans (heap_alloc_new w _)
      have p0 := cell_of_blk hbx6 0
      have p1 := cell_of_blk hbx6 1
      simp at p0 p1
      clear d6 t6 n6 k6 hbx6 D5
      go_wp2_with fail
      refine CR.out.mono ?_
      rintro e w7 ⟨ks, rfl, d7, t7, n7, k7⟩
      have HI7 := Lib.hid (HI6.out.grow k7)
      have B7 := Lib.hid (B6.out.grow k7)
      have D5'' := Lib.hid (And.intro (D5'.out.1.grow k7) D5'.out.2)
      have D6' := Lib.hid (And.intro (D6.out.1.grow k7) D6.out.2)
      have D7 := Lib.hid (And.intro d7 t7)
      have hLS : kn.S = k.L := (dat_S D5''.out.2).trans (torn_none _)
      have hSS : ka.S = k.S := (dat_S D6'.out.2).trans ((torn_full _).trans HI7.out.ok.symm)
      have RN := Lib.hid (read_all kn size k.L w7 D5''.out.1 (HI7.out.torn_len D5''.out.2 D5''.out.1) hLS)
      clear d7 t7 n7 k7 p0 p1 D5' D6 CR
      go_wp2_with fail
      refine RN.out.mono ?_
      rintro e w8 ⟨A8, c8, rfl, b8, k8⟩
      have HI8 := Lib.hid (HI7.out.grow k8)
      have B8 := Lib.hid (And.intro b8 (B7.out.grow k8))
      have RA := Lib.hid (read_all ka size k.S w8 (D6'.out.1.grow k8) (HI7.out.torn_len D6'.out.2 D6'.out.1) hSS)
      have D7' := Lib.hid (And.intro (D7.out.1.grow k8) D7.out.2)
      clear b8 k8 RN
      go_wp2_with fail
      refine RA.out.mono ?_
      rintro e w9 ⟨A9, c9, rfl, b9, k9⟩
      have HI9 := Lib.hid (HI8.out.grow k9)
      have B9 := Lib.hid (And.intro (B8.out.1.grow k9) (And.intro (B8.out.2.grow k9) b9))
      have D9 := Lib.hid (And.intro (D7'.out.1.grow k9) D7'.out.2)
      have RS := Lib.hid (read_all ks size ks.S w9 D9.out.1 (HI9.out.torn_len D9.out.2 D9.out.1) rfl)
      clear b9 k9 RA hLS hSS
      go_wp2_with fail
      refine RS.out.mono ?_
      rintro e wx ⟨AX, cX, rfl, bx, kx⟩
      have HIX := Lib.hid (HI9.out.grow kx)
      have v1 := conv_bytes (B9.out.1.grow kx)
      have v2 := conv_bytes (B9.out.2.1.grow kx)
      have v3 := conv_bytes (B9.out.2.2.grow kx)
      have BL : BytesAt wx (.slice AL size cL) k.L := by
        have hl : k.L.length = size := by have := HIX.out.disk.len; rw [HIX.out.many] at this; exact this
        have := HIX.out.las
        rw [← hl] at this ⊢
        exact BytesAt.of_own this
      have v4 := conv_bytes BL
      have HBL := Lib.hid BL
      have HBX := Lib.hid bx
      have DX := Lib.hid (And.intro (D9.out.1.grow kx) D9.out.2)
      have hwx : ks.W.length = 0 := by rw [dat_len DX.out.2]; rfl
      obtain ⟨Aq, cq, hqv⟩ := own_slice DX.out.1.wa
      have q2 := DX.out.1.c2
      rw [hqv, hwx] at q2
      have WT := Lib.hid (waits_any ks.p _ _ _ _ _ _ wx DX.out.1.c0 q2 DX.out.1.pos (by have := DX.out.1.big; omega))
      clear bx kx RS BL q2 hqv hwx
      go_wp2_with fail
      refine WT.out.mono ?_
      rintro e w' ⟨rfl, rfl⟩
      clear v1 v2 v3 v4 WT
      have HEQ : Hid (∀ i : Nat, T[i]? = some false → ks.S[i]? = k.L[i]?) := by
        intro i hi
        rw [dat_S DX.out.2]
        refine torn_get keep torn hi (n := size) ?_ ?_ HCV.out
        · have := HIX.out.disk.len; rw [HIX.out.many] at this; exact this
        · have := wdat_fit HIX.out.disk; rw [HIX.out.many] at this; exact this
      have hLl : k.L.length = size := by have := HIX.out.disk.len; rw [HIX.out.many] at this; exact this
      have hTl : T.length = size := by have := HIX.out.tou.1; simpa using this
      obtain ⟨b1, o1, hA1, hc1⟩ := bytes_addr HBX.out (by omega)
      obtain ⟨b2, o2, hA2, hc2⟩ := bytes_addr HBL.out (by omega)
      subst hA1
      subst hA2
      have HC1 := Lib.hid hc1
      have HC2 := Lib.hid hc2
      have HLL := Lib.hid hLl
      have HTL := Lib.hid hTl
      clear hc1 hc2 hLl hTl
      go_wp2_with fail
      go_loopw [28] (fun i wr => ∃ j2 : Nat, i = .int .i64 (j2 : Int) ∧ j2 ≤ size ∧ Hid (Keeps [] wx wr)) (fun i _ => size - (intOf i).toNat)
      case atStart => exact ⟨0, rfl, Nat.zero_le _, Keeps.refl _ _⟩
      case round =>
        obtain ⟨j2, rfl, hj2, HW⟩ := hrel
        by_cases hlt2 : j2 < size
        · have hTj : T[j2]? = some (T[j2]'(by have := HTL.out; omega)) := List.getElem?_eq_getElem _
          generalize T[j2]'(by have := HTL.out; omega) = tb at hTj
          have tc := HIX.out.tou.cellAt j2 (by omega)
          rw [List.getElem?_map, hTj] at tc
          have tc2 := (HW.out.cell (lt_of_cell tc) (by simp)).trans tc
          have i1 : 0 ≤ (j2 : Int) := by omega
          have i2 : (j2 : Int) < (size : Int) := by omega
          cases tb with
          | true =>
            simp at tc2
            clear hTj tc
            go_wp2_with fail
            go_quiet (fail)
            go_wp2_with fail
            go_roundw
            case rel => exact ⟨j2 + 1, by go_num, by omega, HW.out.drewN _⟩
            case measure => simp [intOf]; omega
          | false =>
            simp at tc2
            have hLj : k.L[j2]? = some (k.L[j2]'(by have := HLL.out; omega)) := List.getElem?_eq_getElem _
            generalize k.L[j2]'(by have := HLL.out; omega) = u at hLj
            have sc := HC1.out j2 u (by rw [HEQ.out j2 hTj]; exact hLj)
            have lc := HC2.out j2 u hLj
            have sc2 := (HW.out.cell (lt_of_cell sc) (by simp)).trans sc
            have lc2 := (HW.out.cell (lt_of_cell lc) (by simp)).trans lc
            clear hTj tc hLj sc lc
            go_wp2_with fail
            go_quiet (fail)
            go_wp2_with fail
            go_roundw
            case rel => exact ⟨j2 + 1, by go_num, by omega, HW.out.drewN _⟩
            case measure => simp [intOf]; omega
        · go_wp2_with fail
          refine (known_any _).mono ?_
          rintro e wy ⟨rfl, hby⟩
          have HY := Lib.hid ((((Keeps.refl [] w).alloc _).trans' HIX.out.keeps).trans' (HW.out.trans' (Keeps.of_below hby)))
          clear hby
          go_wp2
          go_ret
          exact ⟨rfl, HY.out.below (Nat.le_refl _) (by simp)⟩

end Go.Proofs.Ytadpomclnhemoaa
