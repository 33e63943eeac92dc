/- Texts of one proof, laid together: U46 U47. -/
import Derived.Test.YtikfpkeffmbnpaaGreatM35
import Derived.Test.YtikfpkeffmbnpaaGreatM32
import Derived.Test.YtikfpkeffmbnpaaGreatM13
/- A store on a disk that refuses nothing, over Puts; StoreOpens. -/
namespace Go.Proofs.YtikfpkeffmbnpaaGreat
open Go.RowKit Go.Shelf Go.Maps
set_option linter.unusedVariables false
set_option linter.unusedSimpArgs false
set_option maxRecDepth 100000

/-- A store that lies behind w0, on a disk that refuses nothing. -/
structure FreeI (w0 : World) (p kp size j : Nat) (wr : World) (s : St) (k : Dk) (T : Tab) : Prop where
  st : StM wr s k T
  sp : s.p = p
  kkp : k.p = kp
  br : s.br = false
  calm : Calm k.dat s.at_ s.turn T
  len : k.S.length = size
  lim : k.lim = size
  left : k.left = -1
  done : k.done ≤ 4 * j
  own : ∀ b ∈ k.all, w0.heap.size ≤ b
  mown : ∀ b, s.m = some b → w0.heap.size ≤ b
  keep : Keeps [] w0 wr
  pl : w0.heap.size ≤ p

theorem FreeI.grow {w0 wr w' : World} {p kp size j : Nat} {s : St} {k : Dk} {T : Tab} (h : FreeI w0 p kp size j wr s k T) (hk : Keeps [] wr w') : FreeI w0 p kp size j w' s k T :=
  ⟨h.st.grow hk, h.sp, h.kkp, h.br, h.calm, h.len, h.lim, h.left, h.done, h.own, h.mown, h.keep.trans' hk, h.pl⟩

/-- What Put answers, and leaves. -/
def putR (size : Nat) (T : Tab) (l : List Chg) : Tab := if putN T l false (size / 2) = 0 then behindT T l else T

theorem FreeI.put {w0 wr w1 w' : World} {p kp size j : Nat} {s s' : St} {k k' : Dk} {T T' : Tab} {l : List Chg} {n : Int} (h : FreeI w0 p kp size j wr s k T) (hk : Keeps [] wr w1) (hp : Put w1 s k T l n s' k' T' w') :
    n = putN T l false (size / 2) ∧ T' = putR size T l ∧ FreeI w0 p kp size (j + 1) w' s' k' T' := by
  obtain ⟨f1, f2, f3, f4⟩ := hp.free_is h.left (by rw [h.lim, h.len])
  rw [h.len] at f1
  have hs := hk.size
  have hs0 := h.keep.size
  have hfr : ∀ (s' : St) (k' : Dk), (∀ b ∈ k'.all, b ∈ k.all ∨ w1.heap.size ≤ b) → ∀ b ∈ k'.all, w0.heap.size ≤ b := fun s' k' ha b hb => by
    rcases ha b hb with hb | hb
    · exact h.own b hb
    · omega
  have hkk : Keeps [] w0 w' := (h.keep.trans' hk).trans hp.keeps (fun x hx => .inr (by
    rcases List.mem_cons.1 hx with hx | hx
    · rw [hx, h.sp]; exact h.pl
    · exact h.own x (fp_sub hx)))
  have hmo : ∀ b, s'.m = some b → w0.heap.size ≤ b := fun b hb => by
    rcases hp.m b hb with hb | hb
    · exact h.mown b hb
    · omega
  refine ⟨f1, ?_, ?_⟩
  · unfold putR
    rw [← f1]
    rcases f4 with ⟨f4, _, _, f5⟩ | ⟨f4, _, _, f5⟩
    · rw [if_neg f4]; exact f5
    · rw [if_pos f4]; exact f5
  · rcases f4 with ⟨_, g1, g2, g3⟩ | ⟨_, g1, g2, g3⟩
    · subst g1
      subst g3
      exact ⟨hp.st, h.sp, hp.kp.trans h.kkp, h.br, by rw [g2]; exact h.calm, hp.len.trans h.len, hp.lim.trans h.lim, f2, by have := hp.done.2; have := h.done; omega, hfr s' k' hp.all, hmo, hkk, h.pl⟩
    · exact ⟨hp.st, hp.p.trans h.sp, hp.kp.trans h.kkp, g1, g2, hp.len.trans h.len, hp.lim.trans h.lim, f2, by have := hp.done.2; have := h.done; omega, hfr s' k' hp.all, hmo, hkk, h.pl⟩

theorem steps_dk (k : Dk) (w : World) (h : DiskAt w k) : Calls Tryz.prog 30 #[.pointer (some ⟨k.p, 0, none⟩)] w fun e w' => e = .returned (.int .i64 (k.done : Int)) ∧ w = w' :=
  steps_any k.p (some ⟨k.s, 0, none⟩) k.S.length k.cs (k.done : Int) w h.c0 h.c5 h.pos (by have := h.big; omega)

theorem sameWs_self (W : List (Nat × List UInt8)) : sameWs W W = true := by
  induction W with
  | nil => rfl
  | cons x r ih => simp [sameWs, sameW, ih]

theorem sameDat_self (d : Dat) : sameDat d d = true := by
  simp [sameDat, sameWs_self]

/-- Behind New and Open. -/
theorem freeI_new {w w1 w2 : World} {k : Dk} {p n : Nat} {m : Option Nat} (hs : StM w2 ⟨p, n / 2, 0, m, k.p, false⟩ k []) (hc : Calm k.dat (n / 2) 0 []) (hlen : k.S.length = n) (h4 : k.lim = n) (h5 : k.left = -1) (h6 : k.done = 0) (hn : ∀ b ∈ k.all, w.heap.size ≤ b) (hk1 : Keeps [] w w1) (hm : ∀ b, m = some b → w1.heap.size ≤ b) (hp : w1.heap.size ≤ p) (hk : Keeps [] w1 w2) : FreeI w p k.p n 0 w2 ⟨p, n / 2, 0, m, k.p, false⟩ k [] :=
  ⟨hs, rfl, rfl, rfl, hc, hlen, h4, h5, by omega, hn, fun b hb => Nat.le_trans hk1.size (hm b hb), hk1.trans' hk, Nat.le_trans hk1.size hp⟩

set_option maxHeartbeats 2000000 in
theorem opens_any (size : Int) (A : Option Addr) (len c : Nat) (l : List Act4) (w : World) (h1 : I64 size) (hl : Acts4 w A len l) (hm : len ≤ 9223372036854775807) :
    Calls Tryz.prog 9 #[.int .i64 size, .slice A len c] w fun e w' => e = .returned (.bool true) ∧ Keeps [] w w' := by
  have HK := Lib.hid (fun X => known4_any X)
  have HF := Lib.hid (few_is A len c l w hl hm)
  have hll := hl.len
  have HL := Lib.hid hl
  clear hl
  by_cases q1 : size < 256
  · go_enter Tryz.func9, Tryz.ntmps9
    go_wp2_with fail
    refine (HK.out _).mono ?_
    rintro e w1 ⟨rfl, hk⟩
    have HK1 := Lib.hid hk
    clear hk
    go_wp2_with fail
    go_ret
    exact ⟨rfl, HK1.out⟩
  by_cases q2 : 10000 < size
  · go_enter Tryz.func9, Tryz.ntmps9
    go_wp2_with fail
    refine (HK.out _).mono ?_
    rintro e w1 ⟨rfl, hk⟩
    have HK1 := Lib.hid hk
    clear hk
    go_wp2_with fail
    go_ret
    exact ⟨rfl, HK1.out⟩
  obtain ⟨n, rfl⟩ := Int.eq_ofNat_of_zero_le (show 0 ≤ size by omega)
  have hn1 : 256 ≤ n := by omega
  have hn2 : n ≤ 10000 := by omega
  go_enter Tryz.func9, Tryz.ntmps9
  go_wp2_with fail
  refine HF.out.mono ?_
  rintro e w1 ⟨b, rfl, hb30, hk1⟩
  have HK1 := Lib.hid hk1
  clear hk1 HF
  cases b
  · go_wp2_with fail
    refine (HK.out _).mono ?_
    rintro e w2 ⟨rfl, hk⟩
    have HK2 := Lib.hid (HK1.out.trans' hk)
    clear hk
    go_wp2_with fail
    go_ret
    exact ⟨rfl, HK2.out⟩
  have h30 := hb30 rfl
  clear hb30
  go_wp2_with fail
  refine (new_yes n w1 (by omega) (by omega)).mono ?_
  rintro e w2 ⟨k, rfl, hd, e1, e2, e3, e4, e5, e6, e7, e8⟩
  have hc := calm_new hn1 e1 e2 e3 e4
  have hlen : k.S.length = n := by rw [e1, List.length_replicate]
  have HO := Lib.hid (open_any k w2 hd hc.holds)
  have HN := Lib.hid e7
  have HK2 := Lib.hid e8
  have HC := Lib.hid hc
  clear hd e1 e2 e3 e7 e8 hc
  go_wp2_with fail
  refine HO.out.mono ?_
  rintro e w3 ⟨p, m, rfl, hs, hm3, hp, hk⟩
  have HI0 := Lib.hid (freeI_new hs HC.out hlen e4 e5 e6 HN.out HK2.out hm3 hp hk)
  have HL1 := Lib.hid (HL.out.grow HK1.out)
  generalize hkp : k.p = kp at *
  clear hs hm3 hk HO HC HN e4 e5 e6 hlen hp HK2 HL
  go_wp2_with fail
  go_loopw [9] (fun i wr => ∃ j : Nat, i = .int .i64 (j : Int) ∧ j ≤ len ∧ Hid (∃ s k T, FreeI w1 p kp n j wr s k T)) (fun i _ => len - (intOf i).toNat)
  case atStart => exact ⟨0, rfl, Nat.zero_le _, _, _, _, HI0.out⟩
  case round =>
    obtain ⟨j, rfl, hj, HI⟩ := hrel
    obtain ⟨s, k, T, hi⟩ := HI.out
    by_cases hlt : j < len
    · have hx : l[j]? = some (l[j]'(by omega)) := List.getElem?_eq_getElem (by omega)
      obtain ⟨b, o, rfl, ho⟩ := (HL1.out.grow hi.keep).at_ j _ hx
      generalize l[j]'(by omega) = x at *
      have c2 := ho.c2
      have HP := Lib.hid (sput_any x.A x.l.length x.c x.l hi.st hi.calm hi.br ho.in_.len ho.in_.chgs (by have := hi.done; omega))
      have hsp := hi.sp
      rw [hsp] at HP
      have HI1 := Lib.hid hi
      clear ho hx hi HI
      go_wp2_with fail
      refine HP.out.mono ?_
      rintro e w4 ⟨nn, s', k', T', rfl, hpu⟩
      have HI2 := Lib.hid (HI1.out.put (Keeps.refl [] wr) hpu).2.2
      clear hpu HP HI1
      go_wp2_with fail
      go_roundw
      case rel => exact ⟨j + 1, by go_num, by omega, s', k', T', HI2.out⟩
      case measure => simp [intOf]; omega
    · have hW0 : k.W.length ≤ 1000000 := by
        have := hi.calm.w
        have h2 : k.dat.W.length = k.W.length := by simp [Dk.dat]
        rw [this] at h2
        simp at h2
        omega
      have HCP := Lib.hid (copy_any k wr hi.st.disk hW0)
      have hkk := hi.kkp
      have hsp := hi.sp
      rw [hkk] at HCP
      have HI1 := Lib.hid hi
      clear hi HI
      go_wp2_with fail
      refine HCP.out.mono ?_
      rintro e w4 ⟨kc, rfl, hcp⟩
      have HI4 := Lib.hid (HI1.out.grow hcp.keeps)
      have HS4 := Lib.hid (steps_dk k w4 HI4.out.st.disk)
      rw [hkk] at HS4
      have HCP4 := Lib.hid hcp
      clear hcp HCP HI1
      go_wp2_with fail
      refine HS4.out.mono ?_
      rintro e w5 ⟨rfl, rfl⟩
      have HO4 := Lib.hid (fun X (hk : Keeps [] w4 X) => (open_any k X (HI4.out.st.disk.grow hk) HI4.out.calm.holds))
      rw [hkk] at HO4
      go_wp2_with fail
      refine (HO4.out _ (Keeps.refl [] _)).mono ?_
      rintro e w5 ⟨pa, ma, rfl, hsa, _, _, hka⟩
      have KA := Lib.hid hka
      have HSA := Lib.hid hsa
      clear hsa hka
      go_wp2_with fail
      refine (HO4.out _ KA.out).mono ?_
      rintro e w6 ⟨pb, mb, rfl, hsb, _, _, hkb⟩
      have KB := Lib.hid (KA.out.trans' hkb)
      have HSA6 := Lib.hid (HSA.out.grow hkb)
      have HSB6 := Lib.hid hsb
      have HI6 := Lib.hid (HI4.out.grow KB.out)
      have HS6 := Lib.hid (steps_dk k w6 HI6.out.st.disk)
      rw [hkk] at HS6
      clear hsb hkb HSA HO4 HS4
      go_wp2_with fail
      refine HS6.out.mono ?_
      rintro e w7 ⟨rfl, rfl⟩
      have HSM := Lib.hid (same_any k kc w6 HI6.out.st.disk (HCP4.out.disk.grow KB.out) hW0 (by
        have h2 : kc.dat.W.length = kc.W.length := by simp [Dk.dat]
        have h3 : k.dat.W.length = k.W.length := by simp [Dk.dat]
        rw [HCP4.out.dat, h3] at h2
        omega))
      rw [hkk, HCP4.out.dat, sameDat_self] at HSM
      clear HS6
      go_wp2_with fail
      refine HSM.out.mono ?_
      rintro e w7 ⟨rfl, hb7⟩
      have K7 : Hid (Keeps [] w6 w7) := Keeps.of_below hb7
      have HA7 := Lib.hid (all_any (HSA6.out.grow K7.out))
      clear hb7 HSM
      go_wp2_with fail
      refine HA7.out.mono ?_
      rintro e w8 ⟨A8, c8, rfl, hp8, _, hk8⟩
      have K8 := Lib.hid (K7.out.trans' hk8)
      have P8 := Lib.hid hp8
      have HT8 := Lib.hid (all_any (HI6.out.grow (K7.out.trans' hk8)).st)
      rw [hsp] at HT8
      clear hp8 hk8 HA7
      go_wp2_with fail
      refine HT8.out.mono ?_
      rintro e w9 ⟨A9, c9, rfl, hp9, _, hk9⟩
      have K9 := Lib.hid (K8.out.trans' hk9)
      have htl : T.length ≤ 9223372036854775807 := by have := HI6.out.st.good.few; omega
      have HR9 := Lib.hid (rsame_is A8 A9 T.length T.length c8 c9 T T w9 (P8.out.grow hk9) hp9 htl htl)
      rw [decide_eq_true (rfl : T = T)] at HR9
      clear hp9 hk9 P8 HT8 htl
      go_wp2_with fail
      refine HR9.out.mono ?_
      rintro e w10 ⟨rfl, hk10⟩
      have K10 := Lib.hid (K9.out.trans' hk10)
      have HB10 := Lib.hid (all_any (HSB6.out.grow (K9.out.trans' hk10)))
      clear hk10 HR9
      go_wp2_with fail
      refine HB10.out.mono ?_
      rintro e w11 ⟨A11, c11, rfl, hp11, _, hk11⟩
      have K11 := Lib.hid (K10.out.trans' hk11)
      have P11 := Lib.hid hp11
      have HT11 := Lib.hid (all_any (HI6.out.grow (K10.out.trans' hk11)).st)
      rw [hsp] at HT11
      clear hp11 hk11 HB10
      go_wp2_with fail
      refine HT11.out.mono ?_
      rintro e w12 ⟨A12, c12, rfl, hp12, _, hk12⟩
      have K12 := Lib.hid (K11.out.trans' hk12)
      have htl : T.length ≤ 9223372036854775807 := by have := HI6.out.st.good.few; omega
      have HR12 := Lib.hid (rsame_is A11 A12 T.length T.length c11 c12 T T w12 (P11.out.grow hk12) hp12 htl htl)
      rw [decide_eq_true (rfl : T = T)] at HR12
      clear hp12 hk12 P11 HT11 htl
      go_wp2_with fail
      refine HR12.out.mono ?_
      rintro e w13 ⟨rfl, hk13⟩
      have K13 := Lib.hid (K12.out.trans' hk13)
      clear hk13 HR12
      go_wp2_with fail
      refine (HK.out _).mono ?_
      rintro e w14 ⟨rfl, hk14⟩
      have K14 := Lib.hid (K13.out.trans' hk14)
      clear hk14
      go_wp2_with fail
      go_ret
      exact ⟨rfl, HK1.out.trans' (HI6.out.keep.trans' K14.out)⟩

end Go.Proofs.YtikfpkeffmbnpaaGreat
/- StoreOpens, whatever came in. -/
namespace Go.Proofs.YtikfpkeffmbnpaaGreat
open Go.RowKit Go.Shelf Go.Maps
set_option linter.unusedVariables false

theorem storeopens_any (size : Int) (A : Option Addr) (c : Nat) (l : List Act4) (w : World) (h1 : I64 size) (hl : Acts4 w A l.length l) (hm : l.length ≤ 9223372036854775807) :
    Calls Tryz.prog 9 #[.int .i64 size, .slice A l.length c] w fun e w' => e = .returned (.bool true) ∧ Below w.heap.size w w' :=
  (opens_any size A l.length c l w h1 hl hm).mono fun e w' ⟨he, hk⟩ => ⟨he, hk.below (Nat.le_refl _) (by simp)⟩

end Go.Proofs.YtikfpkeffmbnpaaGreat
