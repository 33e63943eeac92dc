import Derived.Test.YtbfebljahjmjfaaGreatDoorQ25
import Derived.Test.YtbfebljahjmjfaaGreatDoorQ01
/- ber: copies. -/
namespace Go.Proofs.YtbfebljahjmjfaaGreatDoor
open Go.RowKit Go.Shelf
set_option linter.unusedVariables false
set_option linter.unusedSimpArgs false
set_option maxRecDepth 100000

theorem own_pop1 {w : World} {base n d : Nat} {e : TypeId} {g : Option Addr} {xs : List Value} {a : Value} (h : w.ownsRow base e 1 (.slice g (n + 1) d) (n + 1) (xs ++ [a])) (hx : xs.length = n) :
  ∃ k, g = some ⟨k, 0, none⟩ ∧ base ≤ k ∧ k < w.heap.size ∧ n + 1 ≤ d ∧ d ≤ maxLen ∧ w.cell? ⟨k, 0 + n, none⟩ = some a ∧ w.ownsRow base e 1 (.slice g n d) n xs := by
 obtain ⟨h1, h2⟩ := h
 rcases h2 with ⟨_, h2⟩ | ⟨k, cap, cur, hv, hb, hh, hnc, hcm, hcs, ht⟩
 ·omega
 ·injection hv with e1 e2 e3
  subst e1 e3
  have hlt := lt_of_heap hh
  refine ⟨k, rfl, hb, hlt, hnc, hcm, ?_, by rw [hx, Nat.mul_one], .inr ⟨k, d, cur, rfl, hb, hh, by omega, hcm, hcs, ?_⟩⟩
  ·rw [Nat.zero_add, cell_of_blk hh n]
   have h9 : (xs ++ [a])[n]? = some a := by rw [List.getElem?_append_right (by omega), hx]; simp
   rw [← ht, List.getElem?_take] at h9
   simpa using h9
  ·have h9 := congrArg (List.take (n * 1)) ht
   rw [List.take_take, Nat.min_eq_left (by omega), Nat.mul_one, ← hx, List.take_left] at h9
   rw [Nat.mul_one, ← hx]
   exact h9

/-- What the rounds over the stack find, of some weight. -/
def CopR (w0 : World) (C : Option Addr) (l0 : List BV) (v : Value) (wr : World) (m : Nat) : Prop :=
 m ≤ 1000000001 ∧ ∃ S nS g d, v = .slice g nS d ∧ COut w0 C l0 v wr m S nS
/-- What the rounds over a row find. -/
def CinR (w0 : World) (C : Option Addr) (l0 : List BV) (m : Nat) (g : Option Addr) (n d : Nat) (l : List BV) (j : Nat) (v : Value) (wr : World) : Prop :=
 ∃ S nS hs a c, v = .slice a nS c ∧ CIn w0 C l0 m g n d l j v wr S nS hs

theorem CIn.grow {w0 wr w3 : World} {C g : Option Addr} {l0 l : List BV} {v : Value} {m n d j nS : Nat} {S : List CR} {hs : List BH} (h : CIn w0 C l0 m g n d l j v wr S nS hs) (hk : Keeps [] wr w3) : CIn w0 C l0 m g n d l j v w3 S nS hs :=
 ⟨h.len, h.nodes, own_keep h.own hk (by simp), fun s hs => ⟨(h.ok s hs).1, own_keep (h.ok s hs).2 hk (by simp)⟩, h.nd, h.ap, h.keeps.trans' hk, own_keep h.row hk (by simp), h.hl, h.ln, h.mx, h.rest, fun E X hE hX => h.done E X hE ((hk.mono (by simp)).trans' hX), fun E X hE hX => h.wand E X hE ((hk.mono (by simp)).trans' hX)⟩

theorem bers_info : (Tryz.prog.info? 38).map (fun i => (i.zero, i.size, i.bytes)) = some (some (.slice none 0 0), 1, 24) := by kernel_rfl

theorem headsL_set2 : ∀ {hs : List BH} {j : Nat} {h : BH} {D gc : Option Addr} {dd dc : Nat}, hs[j]? = some h → ((headsL hs).set (j * 5 + 3) (.slice D h.la dd)).set (j * 5 + 4) (.slice gc h.lb dc) = headsL (hs.set j ⟨h.c, h.n, h.k, D, h.la, dd, gc, h.lb, dc⟩)
 | x :: r, 0, h, D, gc, dd, dc, hh => by
  simp at hh
  subst hh
  rfl
 | x :: r, j + 1, h, D, gc, dd, dc, hh => by
  have h9 := headsL_set2 (hs := r) (j := j) (h := h) (D := D) (gc := gc) (dd := dd) (dc := dc) (by simpa using hh)
  rw [List.set_cons_succ]
  have hx : ∀ z : List BH, headsL (x :: z) = x.list ++ headsL z := fun z => by simp [headsL]
  have h5 : x.list.length = 5 := rfl
  rw [hx, hx, ← h9, List.set_append_right _ _ (by rw [h5]; omega), List.set_append_right _ _ (by rw [h5]; omega), h5, show (j + 1) * 5 + 3 - 5 = j * 5 + 3 by omega, show (j + 1) * 5 + 4 - 5 = j * 5 + 4 by omega]

/-- Bytes cloned, and where they lie. -/
theorem clone_at (A : Option Addr) (la ca : Nat) (xs : List UInt8) (w : World) (hl : xs.length = la) (hm : la ≤ 140737488351232) (hb : BytesAt w (.slice A la ca) xs) : Calls Tryz.prog 181 #[.slice A la ca] w fun e w' => ∃ D d, e = .returned (.slice D la d) ∧ BytesAt w' (.slice D la d) xs ∧ (∀ x ∈ ob D, w.heap.size ≤ x ∧ x < w'.heap.size) ∧ Keeps [] w w' := by
 subst hl
 refine (clone_any (.slice A xs.length ca) xs w hm hb).mono ?_
 rintro e w' ⟨D, d, rfl, ho, hb⟩
 refine ⟨D, d, rfl, BytesAt.of_own ho, fun x hx => ho.lt x (by rw [← ob_own D xs.length d] at hx; simpa using hx), Keeps.of_below hb⟩

set_option maxHeartbeats 2000000 in
theorem copies_is (B : Option Addr) (lb cb : Nat) (l : List BV) (w : World) (hl : l.length = lb) (hI : ItemsAt w B 0 l) (hn : nodesL l ≤ 1000000000) (hm : maxL l ≤ 1000000000) :
  Calls Tryz.prog 175 #[.slice B lb cb] w fun e w' => ∃ C d, e = .returned (.slice C lb d) ∧ (∀ (E : List Nat) X, (∀ x ∈ E, x < w.heap.size) → Keeps E w' X → ItemsAt X C 0 l) ∧ lb ≤ d ∧ d ≤ 9223372036854775807 ∧ Keeps [] w w' ∧ (∀ x ∈ ob C, w.heap.size ≤ x) := by
 obtain ⟨iu, hiu, hzu0, hzu1, hzu2⟩ := info_parts bers_info
 have hlb : lb ≤ 1000000000 := by have := nodesL_len l; omega
 obtain ⟨hs, h1, h2, h3⟩ := hI.heads
 have HCL := Lib.hid (clonei_is B lb cb l hs w hl hlb h1 (heads_src h1 h3))
 have HH1 := Lib.hid h1
 have HH2 := Lib.hid h2
 have HL := Lib.hid hl
 have HN := Lib.hid hn
 have HM := Lib.hid hm
 clear h1 h2 h3 hI hl hn hm
 go_enter Tryz.func175, Tryz.ntmps175
 go_wp2_with fail
 refine HCL.out.mono ?_
 rintro e w1 ⟨C, d, rfl, ho1, hk1⟩
 have hcap := cap_of_own ho1
 have HO1 := Lib.hid ho1
 have HK1 := Lib.hid hk1
 clear ho1 hk1 HCL
 obtain ⟨W2, hW2⟩ : ∃ W2, w1.alloc (.cells #[.slice C lb d] 38) = W2 := ⟨_, rfl⟩
 have HK2 : Hid (Keeps [] w1 W2) := by rw [← hW2]; exact (Keeps.refl [] w1).alloc _
 have HR2 : Hid (W2.heap[w1.heap.size]? = some (.cells #[.slice C lb d] 38 (0, 0))) := by rw [← hW2]; exact heap_new8 w1 _
 have H0 : Hid (CopR w C l (.slice (some ⟨w1.heap.size, 0, none⟩) 1 1) W2 (1 + nodesL l)) := by
  refine ⟨by have := HN.out; omega, [⟨C, d, hs, l⟩], 1, _, _, rfl, rfl, by simp [nodesC], ⟨rfl, .inr ⟨w1.heap.size, 1, _, rfl, HK1.out.size, HR2.out, Nat.le_refl _, by unfold maxLen; omega, rfl, ?_⟩⟩, fun s hs' => ?_, by cases C <;> simp [bsC, ob], fun b hb hm => ?_, HK1.out.trans' HK2.out, fun E X _ _ h => h ⟨C, d, hs, l⟩ (by simp)⟩
  ·simp [CR.v, HH1.out, HL.out]
  ·rw [List.mem_singleton.1 hs']
   refine ⟨⟨HH1.out, fun j t h ht hh => HH2.out j t h ht hh, HM.out⟩, ?_⟩
   show W2.ownsRow w.heap.size 40 5 (.slice C hs.length d) hs.length (headsL hs)
   rw [HH1.out, HL.out]
   exact own_keep HO1.out HK2.out (by simp)
  ·simp [Value.ownBlock] at hb
   have h9 : b ∈ ob C := by simpa [bsC] using hm
   rw [← ob_own C lb d] at h9
   have := HO1.out.lt b (by simpa using h9)
   omega
 go_wp2_with fail
 clear hW2
 go_loopw [4] (fun v wr => ∃ m, Hid (CopR w C l v wr m)) (fun v wr => leastOfb5 (CopR w C l v wr))
 case atStart => exact ⟨_, H0⟩
 case round =>
  obtain ⟨m0, hm0⟩ := hrel
  have hst := least_isb5 ⟨m0, hm0.out⟩
  generalize hmm : leastOfb5 (CopR w C l u4 wr) = m at *
  clear hm0
  obtain ⟨hm1, S, nS, g, d2, rfl, hC⟩ := hst
  rcases List.eq_nil_or_concat S with rfl | ⟨S1, s, rfl⟩
  ·have hz : nS = 0 := by have := hC.len; simp at this; omega
   subst hz
   have HD := Lib.hid hC.done
   have HK := Lib.hid hC.keeps
   clear hC hmm
   go_wp2_with fail
   go_ret
   exact ⟨C, d, rfl, HD.out, hcap.1, hcap.2, HK.out, fun x hx => (HO1.out.lt x (by rw [← ob_own C lb d] at hx; simpa using hx)).1⟩
  ·rw [List.concat_eq_append] at hC
   obtain ⟨n, rfl⟩ : ∃ n, nS = n + 1 := ⟨S1.length, by have := hC.len; simp at this; omega⟩
   have hown := hC.own
   rw [List.map_append] at hown
   have hs1 : (S1.map CR.v).length = n := by have := hC.len; simp at this; simp; omega
   obtain ⟨k, rfl, hk1, hk2, hnd, hdm, p0, hown1⟩ := own_pop1 hown hs1
   have hcin := hC.pop hown1
   have hn1 : n ≤ 1000000001 := by
    have h8 := nodesC_len (S1 ++ [s])
    have h9 := hC.nodes
    have h10 := hC.len
    omega
   have hsl : s.hs.length ≤ 1000000001 := by
    have h9 := hcin.nodes
    have h10 := nodesL_len (s.l.drop 0)
    rw [List.drop_zero] at h9 h10
    have h11 := hcin.ln
    omega
   have HLP := Lib.hid (lasti_is k 0 n d2 s.v wr hnd (by omega) p0 s.g s.hs.length s.d rfl)
   have HCIN : Hid (CinR w C l m s.g s.hs.length s.d s.l 0 (.slice (some ⟨k, 0, none⟩) n d2) wr) := ⟨S1, n, s.hs, _, _, rfl, hcin⟩
   have HMM := Lib.hid hmm
   clear hC hown hs1 hown1 hcin p0 hmm
   obtain ⟨sg, sd, shs, sl⟩ := s
   simp only [CR.v] at HLP HCIN hsl
   generalize hsn : shs.length = sn at *
   clear hsn
   go_wp2_with fail
   refine HLP.out.mono ?_
   rintro e w3 ⟨rfl, hk3⟩
   obtain ⟨S0, nS0, hs0, a0, c0, he0, hcin0⟩ := HCIN.out
   have HC3 : Hid (CinR w C l m sg sn sd sl 0 (.slice (some ⟨k, 0, none⟩) n d2) w3) := ⟨S0, nS0, hs0, a0, c0, he0, hcin0.grow hk3⟩
   clear he0 hcin0 hk3 HCIN HLP
   go_wp2_with fail
   obtain ⟨wo, hwo⟩ : ∃ wo : World, wo = wr := ⟨_, rfl⟩
   subst hwo
   go_loopw [4, 22] (fun v i wr => ∃ j : Nat, i = .int .i64 (j : Int) ∧ j ≤ sn ∧ Hid (CinR w C l m sg sn sd sl j v wr)) (fun _ i _ => sn - (intOf i).toNat)
   case atStart => exact ⟨0, rfl, Nat.zero_le _, HC3⟩
   case round =>
    obtain ⟨j, rfl, hj, HCJ⟩ := hrel
    obtain ⟨S, nS, hsj, a, c, rfl, hcj⟩ := HCJ.out
    clear HCJ
    by_cases hlt : j < sn
    ·obtain ⟨gb, rfl⟩ : ∃ gb, sg = some ⟨gb, 0, none⟩ := by
      rcases hcj.row.2 with ⟨_, h0⟩ | ⟨kk, _, _, hv, _⟩
      ·omega
      ·injection hv with e1 _ _
       exact ⟨kk, e1⟩
     obtain ⟨t, ht⟩ : ∃ t, sl[j]? = some t := ⟨_, List.getElem?_eq_getElem (by have := hcj.ln; omega)⟩
     obtain ⟨h, hh⟩ : ∃ h, hsj[j]? = some h := ⟨_, List.getElem?_eq_getElem (by have := hcj.hl; omega)⟩
     have hber := hcj.rest j t h (Nat.le_refl _) ht hh
     have hmx : maxB t ≤ 1000000000 := Nat.le_trans (maxL_mem sl t (List.mem_of_getElem? ht)) hcj.mx
     have hnd9 : nodesB t ≤ 1000000001 := by
      have h9 := hcj.nodes
      have h10 := nodesL_at ht
      omega
     have hcell : ∀ q u, (BH.list h)[q]? = some u → wr.cell? ⟨gb, j * 5 + q, none⟩ = some u := fun q u hu => by
      have h9 := hcj.row.cells (g := gb) rfl (j * 5 + q) u (headsL_get hsj j q h u hh hu)
      rw [add_at] at h9
      rwa [Nat.zero_add] at h9
     have hfree : ∀ q, wr.frozen? ⟨gb, q, none⟩ = false := fun q => by
      rcases hcj.row.2 with ⟨hv, _⟩ | ⟨kk, _, cur, hv, _, hb, _⟩
      ·cases hv
      ·injection hv with e1 _ _
       injection e1 with e1
       injection e1 with e1 _ _
       subst e1
       exact free_of_blk hb q
     have y3 := hcell 3 _ rfl
     have y4 := hcell 4 _ rfl
     obtain ⟨tc, tn, tk, tb, tl⟩ := t
     obtain ⟨e1, e2, e3, e4, e5, e6, e7, e8, e9, e10, e11⟩ := hber
     obtain ⟨hc, hn, hk, A, la, ca, B2, lb2, cb2⟩ := h
     obtain ⟨hsc, q1, q2, q3⟩ := e11.heads
     have hmx' : max tb.length (maxL tl) ≤ 1000000000 := hmx
     have hla : la ≤ 140737488351232 := by have h9 : tb.length = la := e6; omega
     have hlb2 : lb2 ≤ 1000000000 := by
      have h8 : tl.length = lb2 := e8
      have h9 := nodesL_len tl
      have h10 := nodesB_mk (.mk tc tn tk tb tl)
      have h11 : (BV.mk tc tn tk tb tl).l = tl := rfl
      rw [h11] at h10
      omega
     have HKJ := Lib.hid hcj.keeps
     have HCB := Lib.hid (fun X (hk : Keeps [] wr X) => clone_at A la ca tb X e6 hla (BytesAt.grow e7 (HKJ.out.trans' hk)))
     have HCI := Lib.hid (fun X (hk : Keeps [] wr X) => clonei_is B2 lb2 cb2 tl hsc X e8 hlb2 q1 ((heads_src q1 q3).grow (HKJ.out.trans' hk)))
     have HF := Lib.hid (fun X (hk : Keeps [] wr X) => And.intro ((hk.cell (p := ⟨gb, j * 5 + 3, none⟩) (lt_of_cell y3) (by simp)).trans y3) (And.intro ((hk.cell (p := ⟨gb, j * 5 + 4, none⟩) (lt_of_cell y4) (by simp)).trans y4) (show (∀ q, X.frozen? ⟨gb, q, none⟩ = false) from fun q => by
      have h9 := hfree q
      unfold World.frozen? at h9 ⊢
      rw [hk.block gb (lt_of_cell y3) (by simp)]
      exact h9)))
     have HST := Lib.hid (And.intro hcj (And.intro ht (And.intro hh (And.intro q1 q2))))
     have hmt : maxL tl ≤ 1000000000 := by omega
     have hnS : nS ≤ 1000000001 := by
      have h8 := nodesC_len S
      have h9 := hcj.nodes
      have h10 := hcj.len
      omega
     have HOS := Lib.hid hcj.own
     have hkz := hcj.keeps.size
     have hi1 : (j : Int) < (sn : Int) := by omega
     clear hcell hfree e7 e11 q1 q2 q3 hcj ht hh e6 e8 e1 e2 e3
     go_wp2_with fail
     go_region_with (first
      | (go_at_call 181; refine (HCB.out _ (by repeat (first | exact Keeps.refl [] _ | refine Keeps.drew ?_))).mono ?_; rintro e wb ⟨D, dd, rfl, hb1, hD1, hkb⟩; have hkb := ((Keeps.refl [] wr).drew.trans' hkb); obtain ⟨yb3, yb4, fb⟩ := HF.out wb hkb; have fb3 := fb (j * 5 + 3); have fb4 := fb (j * 5 + 4); have HB1 := Lib.hid hb1; have HD1 := Lib.hid hD1; have HKB := Lib.hid hkb; clear hb1 hD1 hkb fb)
      | (go_at_call 238; refine (HCI.out _ (by repeat (first | exact HKB.out | exact Keeps.refl [] _ | refine Keeps.drew ?_))).mono ?_; rintro e wi ⟨gc, dc, rfl, hoc, hki⟩; have hkii := HKB.out.trans' hki; obtain ⟨yi3, yi4, fi⟩ := HF.out wi hkii; have fi3 := fi (j * 5 + 3); have fi4 := fi (j * 5 + 4); have HOC := Lib.hid hoc; have HKI := Lib.hid hki; have HKII := Lib.hid hkii; clear hoc hki hkii fi))
     all_goals
      obtain ⟨hcj, ht, hh, q1, q2⟩ := HST.out
      have hrow0 := own_keep hcj.row HKII.out (by simp)
      have hrow1 := own_set (off := j * 5 + 3) hrow0 (.slice D la dd)
      have hrow2 := own_set (off := j * 5 + 4) hrow1 (.slice gc lb2 dc)
      have k3 : Keeps [gb] wi ((wi.setCell ⟨gb, j * 5 + 3, none⟩ (.slice D la dd)).setCell ⟨gb, j * 5 + 4, none⟩ (.slice gc lb2 dc)) := ((Keeps.refl [gb] wi).setCell (.inl (by simp)) _).setCell (.inl (by simp)) _
      have c4 : ((wi.setCell ⟨gb, j * 5 + 3, none⟩ (.slice D la dd)).setCell ⟨gb, j * 5 + 4, none⟩ (.slice gc lb2 dc)).cell? ⟨gb, j * 5 + 4, none⟩ = some (.slice gc lb2 dc) := by
       refine World.cell?_setCell_same _ _ _ (u := .slice B2 lb2 cb2) ?_
       rw [World.cell?_setCell_other _ _ _ _ (by simp)]
       exact yi4
      generalize (wi.setCell ⟨gb, j * 5 + 3, none⟩ (.slice D la dd)).setCell ⟨gb, j * 5 + 4, none⟩ (.slice gc lb2 dc) = W3 at *
      have hvg : ∀ b, (Value.slice a nS c).ownBlock = some b → b ≠ gb := fun b hb e => hcj.ap b (by rw [hb]; simp) (List.mem_append_right _ (by simp [ob, e]))
      have HR9 := Lib.hid (heap_new8 W3 (.cells #[.slice gc lb2 dc] 38))
      have HOWA := Lib.hid (own_keep (own_keep (own_keep hcj.own HKII.out (by simp)) k3 (fun b hb hm => hvg b hb (List.mem_singleton.1 hm))) ((Keeps.refl [] W3).alloc (.cells #[.slice gc lb2 dc] 38)) (by simp))
      have HSRC : Hid (Src (W3.alloc (.cells #[.slice gc lb2 dc] 38)) (some ⟨W3.heap.size, 0, none⟩) 1 [.slice gc lb2 dc]) := by
       refine ⟨fun h => by simp at h, fun ad ha q u hu => ?_⟩
       injection ha with ha
       subst ha
       rw [add_at, cell_of_blk HR9.out]
       simpa using hu
      have hz9 : w.heap.size ≤ W3.heap.size := by have := HKII.out.size; have := k3.size; omega
      have HK3 := Lib.hid k3
      have HRW := Lib.hid hrow2
      have hap9 : ∀ x ∈ ob D, x ∉ ob gc := fun x hx hg => by
       have h8 := HOC.out.lt x (by rw [← ob_own gc lb2 dc] at hg; simpa using hg)
       have h9 := HD1.out x hx
       omega
      have HAP := Lib.hid hap9
      clear hcj ht hh q1 q2 hrow0 hrow1 hrow2 k3 hvg yb3 yb4 yi3 yi4 fb3 fb4 fi3 fi4 hap9 y3 y4
      go_wp2_with (at_builtin; refine wpList_append_opt rfl (.tmp 44) (.tmp 49) 257 rfl w.heap.size 38 iu _ 1 24 Tryz.underlying257 hiu hzu0 hzu1 hzu2 rfl (by decide) (.slice a nS c) nS (S.map CR.v) rfl HOWA.out (some ⟨W3.heap.size, 0, none⟩) 1 1 [.slice gc lb2 dc] rfl rfl HSRC.out (by simp [Value.oneCell']) (by unfold maxLen; omega) (by omega) (by simp; omega) ?_; intro v8 w8 ho8 hg8 hs8; obtain ⟨A8, c8, hv8⟩ := own_slice ho8; subst hv8; have HO8 := Lib.hid ho8; have HG8 := Lib.hid hg8; have HS8 := Lib.hid hs8; clear ho8 hg8 hs8)
      have HNEW : Hid (CinR w C l m (some ⟨gb, 0, none⟩) sn sd sl (j + 1) (.slice A8 (nS + 1) c8) w8) := by
       obtain ⟨hcj, ht, hh, q1, q2⟩ := HST.out
       have hzb : wr.heap.size ≤ wb.heap.size := HKB.out.size
       refine ⟨_, _, _, _, _, rfl, hcj.step hlt ht hh (w2 := wi) (D := D) (gc := gc) (dd := dd) (dc := dc) (hsc := hsc) HKII.out (HB1.out.grow HKI.out) (fun x hx => ⟨(HD1.out x hx).1, Nat.lt_of_lt_of_le (HD1.out x hx).2 HKI.out.size⟩) (HOC.out.mono hzb) HAP.out q1 q2 hmt HK3.out ?_ ((Keeps.refl [] W3).alloc _) HO8.out HG8.out HS8.out⟩
       have h9 := HRW.out
       rw [headsL_set2 (h := ⟨hc, hn, hk, A, la, ca, B2, lb2, cb2⟩) hh] at h9
       exact h9
      clear HO8 HG8 HS8 HSRC HOWA HR9 HRW
      go_wp2_with fail
      go_roundw
      case rel => exact ⟨j + 1, by go_num, by omega, HNEW⟩
      case measure => simp [intOf]; omega
    ·obtain rfl : j = sn := by omega
     have HE : Hid (∃ m2, m2 < m ∧ CopR w C l (.slice a nS c) wr m2) := ⟨m - 1, by have := hcj.nodes; omega, by omega, S, nS, a, c, rfl, hcj.out (Nat.le_refl _)⟩
     clear hcj
     obtain ⟨m2, hm2, hst2⟩ := HE.out
     have HST := Lib.hid hst2
     have hle := least_leb5 hst2
     clear hst2
     go_wp2_with fail
     go_roundw
     case rel => exact ⟨m2, HST⟩
     case measure => rw [HMM.out]; exact Nat.lt_of_le_of_lt hle hm2

end Go.Proofs.YtbfebljahjmjfaaGreatDoor
/- ber: what holds Items; another tag. -/
namespace Go.Proofs.YtbfebljahjmjfaaGreatDoor
open Go.RowKit Go.Shelf
set_option linter.unusedVariables false
set_option linter.unusedSimpArgs false
set_option maxRecDepth 100000

theorem BytesAt.none (w : World) : BytesAt w (.slice none 0 0) [] := ⟨Option.none, 0, rfl, Nat.le_refl _, Nat.zero_le _, fun h => absurd h (by simp)⟩

/-- What holds copies of some: in memory of its own. -/
def HoldQ (num : Nat) (lb : Nat) (l : List BV) (w : World) (e : Ending) (w' : World) : Prop :=
 ∃ C d, e = .returned (.agg #[.int .u8 0, .int .u8 (num : Int), .bool true, .slice none 0 0, .slice C lb d]) ∧ (∀ (E : List Nat) X, (∀ x ∈ E, x < w.heap.size) → Keeps E w' X → BerAt X (.mk 0 num true [] l) ⟨0, num, true, none, 0, 0, C, lb, d⟩) ∧ Keeps [] w w'

theorem holdi_is (num : Nat) (hnum : num < 256) (B : Option Addr) (lb cb : Nat) (l : List BV) (w : World) (hl : l.length = lb) (hI : ItemsAt w B 0 l) (hn : nodesL l ≤ 1000000000) (hm : maxL l ≤ 1000000000) :
  Calls Tryz.prog 158 #[.int .u8 (num : Int), .slice B lb cb] w (HoldQ num lb l w) := by
 have HC := Lib.hid (fun X (hk : Keeps [] w X) => copies_is B lb cb l X hl (ItemsAt.grow hk B 0 l hI) hn hm)
 have HL := Lib.hid hl
 clear hI hn hm hl
 obtain ⟨W0, hW0⟩ : ∃ W0, w.alloc ber0 = W0 := ⟨_, rfl⟩
 have HK0 : Hid (Keeps [] w W0) := by rw [← hW0]; exact (Keeps.refl [] w).alloc _
 have HZ0 : Hid (W0.heap.size = w.heap.size + 1) := by rw [← hW0]; simp [Hid]
 have HR0 : Hid (W0.heap[w.heap.size]? = some ber0) := by rw [← hW0]; exact heap_new8 w _
 go_enter Tryz.func158, Tryz.ntmps158
 go_wp2_with fail
 refine (HC.out _ HK0.out).mono ?_
 rintro e w1 ⟨C, d, rfl, hi, hd1, hd2, hk1, _⟩
 have hr1 := blk_keep HR0.out hk1 (by simp)
 obtain ⟨⟨g0, g1, g2, g3, g4⟩, ⟨f0, f1, f2, f3, f4⟩⟩ := five_facts hr1
 have HR1 := Lib.hid hr1
 have HI := Lib.hid hi
 have HK1 := Lib.hid (HK0.out.trans' hk1)
 clear hr1 hi hk1
 go_wp2_with fail
 have hrow := five_set (v0 := .int .u8 0) (v1 := .int .u8 (num : Int)) (v2 := .bool true) (v3 := .slice none 0 0) (v4 := .slice C lb d) HR1.out
 have hkf := five_keep (v0 := .int .u8 0) (v1 := .int .u8 (num : Int)) (v2 := .bool true) (v3 := .slice none 0 0) (v4 := .slice C lb d) HK1.out (g := w.heap.size) (.inr (Nat.le_refl _))
 have hks := five_keep (bs := [w.heap.size]) (v0 := .int .u8 0) (v1 := .int .u8 (num : Int)) (v2 := .bool true) (v3 := .slice none 0 0) (v4 := .slice C lb d) (Keeps.refl [w.heap.size] w1) (g := w.heap.size) (.inl (by simp))
 refine ret_ber rfl rfl rfl hrow rfl ⟨C, d, rfl, fun E X hE hk => ⟨rfl, rfl, rfl, by omega, hnum, rfl, BytesAt.none _, HL.out, hd1, hd2, ?_⟩, hkf⟩
 have hk9 : Keeps (w.heap.size :: E) w1 X := (hks.mono (by simp)).trans hk (fun x hx => .inl (List.mem_cons_of_mem _ hx))
 refine HI.out _ X (fun x hx => ?_) hk9
 have := HZ0.out
 rcases List.mem_cons.1 hx with hx | hx
 ·omega
 ·have := hE x hx; omega

theorem list_is (B : Option Addr) (lb cb : Nat) (l : List BV) (w : World) (hl : l.length = lb) (hI : ItemsAt w B 0 l) (hn : nodesL l ≤ 1000000000) (hm : maxL l ≤ 1000000000) :
  Calls Tryz.prog 99 #[.slice B lb cb] w (HoldQ 16 lb l w) := by
 have HC := Lib.hid (fun X (hk : Keeps [] w X) => holdi_is 16 (by decide) B lb cb l X hl (ItemsAt.grow hk B 0 l hI) hn hm)
 clear hI hn hm hl
 obtain ⟨W0, hW0⟩ : ∃ W0, w.alloc ber0 = W0 := ⟨_, rfl⟩
 have HK0 : Hid (Keeps [] w W0) := by rw [← hW0]; exact (Keeps.refl [] w).alloc _
 have HZ0 : Hid (W0.heap.size = w.heap.size + 1) := by rw [← hW0]; simp [Hid]
 have HR0 : Hid (W0.heap[w.heap.size]? = some ber0) := by rw [← hW0]; exact heap_new8 w _
 go_enter Tryz.func99, Tryz.ntmps99
 go_wp2_with fail
 refine (HC.out _ HK0.out).mono ?_
 rintro e w1 ⟨C, d, rfl, hi, hk1⟩
 have hr1 := blk_keep HR0.out hk1 (by simp)
 obtain ⟨⟨g0, g1, g2, g3, g4⟩, ⟨f0, f1, f2, f3, f4⟩⟩ := five_facts hr1
 have HR1 := Lib.hid hr1
 have HI := Lib.hid hi
 have HK1 := Lib.hid (HK0.out.trans' hk1)
 clear hr1 hi hk1
 go_wp2_with fail
 have hrow := five_set (v0 := .int .u8 0) (v1 := .int .u8 ((16 : Nat) : Int)) (v2 := .bool true) (v3 := .slice none 0 0) (v4 := .slice C lb d) HR1.out
 have hkf := five_keep (v0 := .int .u8 0) (v1 := .int .u8 ((16 : Nat) : Int)) (v2 := .bool true) (v3 := .slice none 0 0) (v4 := .slice C lb d) HK1.out (g := w.heap.size) (.inr (Nat.le_refl _))
 have hks := five_keep (bs := [w.heap.size]) (v0 := .int .u8 0) (v1 := .int .u8 ((16 : Nat) : Int)) (v2 := .bool true) (v3 := .slice none 0 0) (v4 := .slice C lb d) (Keeps.refl [w.heap.size] w1) (g := w.heap.size) (.inl (by simp))
 refine ret_ber rfl rfl rfl hrow rfl ⟨C, d, rfl, fun E X hE hk => ?_, hkf⟩
 have hk9 : Keeps (w.heap.size :: E) w1 X := (hks.mono (by simp)).trans hk (fun x hx => .inl (List.mem_cons_of_mem _ hx))
 refine HI.out _ X (fun x hx => ?_) hk9
 have := HZ0.out
 rcases List.mem_cons.1 hx with hx | hx
 ·omega
 ·have := hE x hx; omega

end Go.Proofs.YtbfebljahjmjfaaGreatDoor
