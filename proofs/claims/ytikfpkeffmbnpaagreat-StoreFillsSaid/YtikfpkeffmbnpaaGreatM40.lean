/- Texts of one proof, laid together: U54. -/
import Derived.Test.YtikfpkeffmbnpaaGreatM39
import Derived.Test.YtikfpkeffmbnpaaGreatM36
/- StorePlay: what a round finds. -/
namespace Go.Proofs.YtikfpkeffmbnpaaGreat
open Go.RowKit Go.Shelf Go.Maps
set_option linter.unusedVariables false
set_option linter.unusedSimpArgs false
set_option maxRecDepth 100000

theorem PrsAt.keep2 {w w' : World} {A : Option Addr} {len : Nat} {T : Tab} {bs : List Nat} (h : PrsAt w A len T) (hk : Keeps bs w w') (hb : T ≠ [] → ∀ a, A = some a → a.block ∉ bs) : PrsAt w' A len T := by
  refine ⟨h.len, fun i x hx => ?_⟩
  obtain ⟨b, o, h1, h2, h3⟩ := h.at_ i x hx
  have hb' := hb (fun e => by rw [e] at hx; simp at hx) _ h1
  exact ⟨b, o, h1, (hk.cell (lt_of_cell h2) hb').trans h2, (hk.cell (lt_of_cell h3) hb').trans h3⟩
theorem PrsAt.blt {w : World} {A : Option Addr} {len : Nat} {T : Tab} (h : PrsAt w A len T) (hT : T ≠ []) : ∀ a, A = some a → a.block < w.heap.size := by
  intro a ha
  match T, hT, h with
  | x :: r, _, h =>
    obtain ⟨b, o, h1, h2, _⟩ := h.at_ 0 x rfl
    rw [ha] at h1
    injection h1 with h1
    subst h1
    exact lt_of_cell h2

theorem torn_len {w : World} {k : Dk} (h : DiskAt w k) (keep torn : Int) : (tornOf k.dat keep torn).length = k.S.length := by
  have hf := wdat_fit h
  have hW : k.dat.W = wdat k.W := rfl
  have hL : k.dat.L.length = k.S.length := h.len
  have hl : ∀ K, (layAll k.dat.L (k.dat.W.take K)).length = k.S.length := fun K => length_layAll hL (fun x hx => hf x (by rw [← hW]; exact List.mem_of_mem_take hx))
  unfold tornOf
  split
  · exact hl _
  · rename_i x hx
    have hm : x ∈ wdat k.W := by rw [← hW]; exact List.mem_of_getElem? hx
    have := hf x hm
    rw [length_laid (by rw [hl, List.length_take]; omega), hl]

theorem calm_wl {k : Dk} {at_ turn : Nat} {T : Tab} (hc : Calm k.dat at_ turn T) : k.W.length ≤ 1 := by
  have h1 := hc.w
  have h9 : k.dat.W.length = k.W.length := by simp [Dk.dat]
  rw [h1] at h9
  simp at h9
  omega

/-- What a round of StorePlay finds. -/
structure PlayI (w0 wr : World) (size gB j : Nat) (s : St) (k : Dk) (T : Tab) (GA : Option Addr) (gn gc : Nat) (OA : Option Addr) (on oc : Nat) (U : Tab) : Prop where
  st : StM wr s k T
  g : wr.heap[gB]? = some (.cells #[.slice GA gn gc, .int .i64 (size : Int), .bool s.br] 34 (0, 0))
  gt : PrsAt wr GA gn T
  ot : PrsAt wr OA on U
  mode : s.br = false ∧ Calm k.dat s.at_ s.turn T ∧ U = T ∨ s.br = true ∧ ∃ at0 turn0 at' turn', Torn k.dat at0 turn0 T at' turn' U
  len : k.S.length = size
  wl : k.W.length ≤ 1
  done : k.done ≤ 4 * j
  own : ∀ b ∈ k.all, w0.heap.size ≤ b
  mown : ∀ b, s.m = some b → w0.heap.size ≤ b
  pl : w0.heap.size ≤ s.p
  gl : w0.heap.size ≤ gB
  gk : gB ∉ k.all ∧ gB ≠ s.p ∧ s.m ≠ some gB
  gs : T ≠ [] → ∀ a, GA = some a → a.block ∉ k.all ∧ a.block ≠ s.p ∧ a.block ≠ gB
  os : U ≠ [] → ∀ a, OA = some a → a.block ∉ k.all ∧ a.block ≠ s.p ∧ a.block ≠ gB
  keep : Keeps [] w0 wr

section
variable {w0 wr w' w1 : World} {size gB j : Nat} {s s' : St} {k k' : Dk} {T T' U : Tab} {GA OA A' : Option Addr} {gn gc on oc n' c' : Nat} {l : List Chg} {n : Int}

theorem PlayI.grow (h : PlayI w0 wr size gB j s k T GA gn gc OA on oc U) (hk : Keeps [] wr w') : PlayI w0 w' size gB j s k T GA gn gc OA on oc U :=
  ⟨h.st.grow hk, blk_keep h.g hk (by simp), h.gt.grow hk, h.ot.grow hk, h.mode, h.len, h.wl, h.done, h.own, h.mown, h.pl, h.gl, h.gk, h.gs, h.os, h.keep.trans' hk⟩
theorem PlayI.more (h : PlayI w0 wr size gB j s k T GA gn gc OA on oc U) : PlayI w0 wr size gB (j + 1) s k T GA gn gc OA on oc U :=
  ⟨h.st, h.g, h.gt, h.ot, h.mode, h.len, h.wl, by have := h.done; omega, h.own, h.mown, h.pl, h.gl, h.gk, h.gs, h.os, h.keep⟩

/-- A block apart from a store's own. -/
theorem PlayI.apart (h : PlayI w0 wr size gB j s k T GA gn gc OA on oc U) {b : Nat} (hb : b ∉ k.all ∧ b ≠ s.p) : b ∉ s.p :: k.fp := fun hm => by
  rcases List.mem_cons.1 hm with hm | hm
  · exact hb.2 hm
  · exact hb.1 (fp_sub hm)
theorem PlayI.kk (h : PlayI w0 wr size gB j s k T GA gn gc OA on oc U) : Keeps (s.p :: k.fp) wr w' → Keeps [] w0 w' := fun hk =>
  h.keep.trans hk (fun x hx => .inr (by
    rcases List.mem_cons.1 hx with hx | hx
    · rw [hx]; exact h.pl
    · exact h.own x (fp_sub hx)))

/-- Behind a Put: what stays apart. -/
theorem Put.stays {k0 : Dk} (hp : Put wr s k T l n s' k' T' w') {b : Nat} (hb : b ∉ k.all ∧ b ≠ s.p) (hl : b < wr.heap.size) : b ∉ k'.all ∧ b ≠ s'.p := by
  refine ⟨fun hm => ?_, by rw [hp.p]; exact hb.2⟩
  rcases hp.all b hm with h | h
  · exact hb.1 h
  · omega

theorem wlen_of {d : Dat} {k : Dk} (h : k.dat = d) : k.W.length = d.W.length := dat_len h

/-- A Put that changed nothing (where it is not broken). -/
theorem PlayI.put_same (h : PlayI w0 wr size gB j s k T GA gn gc OA on oc U) (hp : Put wr s k T l n s' k' T' w') (hs : s' = s) (hd : k'.dat = k.dat) (hT : T' = T) : PlayI w0 w' size gB (j + 1) s k' T GA gn gc OA on oc U := by
  subst hs
  subst hT
  have hgl := lt_of_heap h.g
  have hga := h.apart ⟨h.gk.1, h.gk.2.1⟩
  have gss := fun hT a ha => h.apart ⟨(h.gs hT a ha).1, (h.gs hT a ha).2.1⟩
  have oss := fun hT a ha => h.apart ⟨(h.os hT a ha).1, (h.os hT a ha).2.1⟩
  refine ⟨hp.st, blk_keep h.g hp.keeps hga, h.gt.keep2 hp.keeps gss, h.ot.keep2 hp.keeps oss, by rw [hd]; exact h.mode, hp.len.trans h.len, by rw [wlen_of hd]; have := h.wl; simpa [Dk.dat] using this, by have := hp.done.2; have := h.done; omega, fun b hb => ?_, h.mown, h.pl, h.gl, ⟨(hp.stays (k0 := k) ⟨h.gk.1, h.gk.2.1⟩ hgl).1, h.gk.2⟩, fun hT a ha => ?_, fun hT a ha => ?_, h.kk hp.keeps⟩
  · rcases hp.all b hb with hb | hb
    · exact h.own b hb
    · have := h.keep.size; omega
  · obtain ⟨q1, q2, q3⟩ := h.gs hT a ha
    exact ⟨(hp.stays (k0 := k) ⟨q1, q2⟩ (h.gt.blt hT a ha)).1, q2, q3⟩
  · obtain ⟨q1, q2, q3⟩ := h.os hT a ha
    exact ⟨(hp.stays (k0 := k) ⟨q1, q2⟩ (h.ot.blt hT a ha)).1, q2, q3⟩

/-- What the document's Put told is apart. -/
theorem PlayI.new_apart (h : PlayI w0 wr size gB j s k T GA gn gc OA on oc U) (hn : A' = GA ∧ T' = T ∨ ∀ a, A' = some a → wr.heap.size ≤ a.block) (hT : T' ≠ []) : ∀ a, A' = some a → a.block ∉ k.all ∧ a.block ≠ s.p ∧ a.block ≠ gB := by
  intro a ha
  rcases hn with ⟨hn, h2⟩ | hn
  · exact h.gs (by rw [← h2]; exact hT) a (by rw [← hn]; exact ha)
  · have h1 := hn a ha
    have h2 := h.st.st.lt
    have h3 := lt_of_heap h.g
    exact ⟨fun hm => by have := h.st.disk.lt _ hm; omega, by omega, by omega⟩

theorem g_set {w : World} {gB : Nat} {a b c : Value} (h : w.heap[gB]? = some (.cells #[a, b, c] 34 (0, 0))) (u : Value) :
    (w.setCell ⟨gB, 0, none⟩ u).heap[gB]? = some (.cells #[u, b, c] 34 (0, 0)) ∧ (w.setCell ⟨gB, 2, none⟩ u).heap[gB]? = some (.cells #[a, b, u] 34 (0, 0)) := ⟨blk_set h 0 u, blk_set h 2 u⟩

/-- A Put that was done. -/
theorem PlayI.put_ok (h : PlayI w0 wr size gB j s k T GA gn gc OA on oc U) (hk1 : Keeps [] wr w1) (hA : PrsAt w1 A' n' (behindT T l)) (hn : A' = GA ∧ behindT T l = T ∨ ∀ a, A' = some a → wr.heap.size ≤ a.block) (hp : Put w1 s k T l n s' k' T' w') (hb : s'.br = false) (hbr : s.br = false) (hc : Calm k'.dat s'.at_ s'.turn T') (hT : T' = behindT T l) :
    PlayI w0 (w'.setCell ⟨gB, 0, none⟩ (.slice A' n' c')) size gB (j + 1) s' k' T' A' n' c' A' n' c' T' := by
  have h1 := h.grow hk1
  subst hT
  have hgl := lt_of_heap h1.g
  have hga := h1.apart ⟨h1.gk.1, h1.gk.2.1⟩
  have hg := blk_keep h1.g hp.keeps hga
  rw [hbr] at hg
  have hst := hp.stays (k0 := k) ⟨h1.gk.1, h1.gk.2.1⟩ hgl
  have hsm : s'.m ≠ some gB := fun e => by
    rcases hp.m gB e with e | e
    · exact h1.gk.2.2 e
    · omega
  have hap := fun hT => h.new_apart (A' := A') hn hT
  have hap2 : behindT T l ≠ [] → ∀ a, A' = some a → a.block ∉ k'.all ∧ a.block ≠ s'.p ∧ a.block ≠ gB := fun hT a ha => by
    obtain ⟨q1, q2, q3⟩ := hap hT a ha
    obtain ⟨r1, r2⟩ := hp.stays (k0 := k) ⟨q1, q2⟩ (hA.blt hT a ha)
    exact ⟨r1, r2, q3⟩
  have hpr : PrsAt w' A' n' (behindT T l) := hA.keep2 hp.keeps (fun hT a ha => h1.apart ⟨(hap hT a ha).1, (hap hT a ha).2.1⟩)
  have k3 : Keeps [gB] w' (w'.setCell ⟨gB, 0, none⟩ (.slice A' n' c')) := (Keeps.refl [gB] w').setCell (.inl (by simp)) _
  have hpr3 := hpr.keep2 k3 (fun hT a ha hm => (hap2 hT a ha).2.2 (List.mem_singleton.1 hm))
  have hb2 := (g_set hg (.slice A' n' c')).1
  rw [← hb] at hb2
  refine ⟨hp.st.keep k3 (fun hm => hst.2 (List.mem_singleton.1 hm).symm) (fun b hb hm => hst.1 (by rw [← List.mem_singleton.1 hm]; exact hb)) (fun b hb hm => hsm (by rw [← List.mem_singleton.1 hm]; exact hb)), hb2, hpr3, hpr3, .inl ⟨hb, hc, rfl⟩, hp.len.trans h.len, calm_wl hc, by have := hp.done.2; have := h.done; omega, fun b hb => ?_, fun b hb => ?_, by rw [hp.p]; exact h.pl, h.gl, ⟨hst.1, hst.2, hsm⟩, hap2, hap2, (h1.kk hp.keeps).trans k3 (fun x hx => .inr (by rw [List.mem_singleton.1 hx]; exact h.gl))⟩
  · rcases hp.all b hb with hb | hb
    · exact h.own b hb
    · have := h1.keep.size; omega
  · rcases hp.m b hb with hb | hb
    · exact h.mown b hb
    · have := h1.keep.size; omega

/-- A Put within which the disk stopped. -/
theorem PlayI.put_stop (h : PlayI w0 wr size gB j s k T GA gn gc OA on oc U) (hk1 : Keeps [] wr w1) (hA : PrsAt w1 A' n' (behindT T l)) (hn : A' = GA ∧ behindT T l = T ∨ ∀ a, A' = some a → wr.heap.size ≤ a.block) (hp : Put w1 s k T l n s' k' T' w') (hb : s'.br = true) (hT : T' = T) {at0 turn0 at' turn' : Nat} (ht : Torn k'.dat at0 turn0 T at' turn' (behindT T l)) (hwl : k'.W.length ≤ 1) :
    PlayI w0 (w'.setCell ⟨gB, 2, none⟩ (.bool true)) size gB (j + 1) s' k' T GA gn gc A' n' c' (behindT T l) := by
  have h1 := h.grow hk1
  subst hT
  have hgl := lt_of_heap h1.g
  have hga := h1.apart ⟨h1.gk.1, h1.gk.2.1⟩
  have hg := blk_keep h1.g hp.keeps hga
  have hst := hp.stays (k0 := k) ⟨h1.gk.1, h1.gk.2.1⟩ hgl
  have hsm : s'.m ≠ some gB := fun e => by
    rcases hp.m gB e with e | e
    · exact h1.gk.2.2 e
    · omega
  have hap := fun hT => h.new_apart (A' := A') hn hT
  have hap2 : behindT T' l ≠ [] → ∀ a, A' = some a → a.block ∉ k'.all ∧ a.block ≠ s'.p ∧ a.block ≠ gB := fun hT a ha => by
    obtain ⟨q1, q2, q3⟩ := hap hT a ha
    obtain ⟨r1, r2⟩ := hp.stays (k0 := k) ⟨q1, q2⟩ (hA.blt hT a ha)
    exact ⟨r1, r2, q3⟩
  have gap2 : T' ≠ [] → ∀ a, GA = some a → a.block ∉ k'.all ∧ a.block ≠ s'.p ∧ a.block ≠ gB := fun hT a ha => by
    obtain ⟨q1, q2, q3⟩ := h.gs hT a ha
    obtain ⟨r1, r2⟩ := hp.stays (k0 := k) ⟨q1, q2⟩ (h1.gt.blt hT a ha)
    exact ⟨r1, r2, q3⟩
  have hpr : PrsAt w' A' n' (behindT T' l) := hA.keep2 hp.keeps (fun hT a ha => h1.apart ⟨(hap hT a ha).1, (hap hT a ha).2.1⟩)
  have hgr : PrsAt w' GA gn T' := h1.gt.keep2 hp.keeps (fun hT a ha => h1.apart ⟨(h.gs hT a ha).1, (h.gs hT a ha).2.1⟩)
  have k3 : Keeps [gB] w' (w'.setCell ⟨gB, 2, none⟩ (.bool true)) := (Keeps.refl [gB] w').setCell (.inl (by simp)) _
  have hpr3 := hpr.keep2 k3 (fun hT a ha hm => (hap2 hT a ha).2.2 (List.mem_singleton.1 hm))
  have hgr3 := hgr.keep2 k3 (fun hT a ha hm => (gap2 hT a ha).2.2 (List.mem_singleton.1 hm))
  have hb2 := (g_set hg (.bool true)).2
  have hb3 : (w'.setCell ⟨gB, 2, none⟩ (.bool true)).heap[gB]? = some (.cells #[.slice GA gn gc, .int .i64 (size : Int), .bool s'.br] 34 (0, 0)) := by rw [hb]; exact hb2
  refine ⟨hp.st.keep k3 (fun hm => hst.2 (List.mem_singleton.1 hm).symm) (fun b hb hm => hst.1 (by rw [← List.mem_singleton.1 hm]; exact hb)) (fun b hb hm => hsm (by rw [← List.mem_singleton.1 hm]; exact hb)), hb3, hgr3, hpr3, .inr ⟨hb, at0, turn0, at', turn', ht⟩, hp.len.trans h.len, hwl, by have := hp.done.2; have := h.done; omega, fun b hb => ?_, fun b hb => ?_, by rw [hp.p]; exact h.pl, h.gl, ⟨hst.1, hst.2, hsm⟩, gap2, hap2, (h1.kk hp.keeps).trans k3 (fun x hx => .inr (by rw [List.mem_singleton.1 hx]; exact h.gl))⟩
  · rcases hp.all b hb with hb | hb
    · exact h.own b hb
    · have := h1.keep.size; omega
  · rcases hp.m b hb with hb | hb
    · exact h.mown b hb
    · have := h1.keep.size; omega

/-- The disk's numbers turned. -/
theorem PlayI.nums (h : PlayI w0 wr size gB j s k T GA gn gc OA on oc U) {lim : Nat} {left : Int} (hd : DiskAt w' (k.nums lim left k.done)) (hk : Keeps [k.p] wr w') (hl : lim ≤ size) : PlayI w0 w' size gB (j + 1) s (k.nums lim left k.done) T GA gn gc OA on oc U := by
  have hkp : k.p ∈ k.all := fp_sub (by simp [Dk.fp])
  have hk2 : Keeps (s.p :: k.fp) wr w' := hk.mono (fun x hx => .inl (by rw [List.mem_singleton.1 hx]; simp [Dk.fp]))
  refine ⟨⟨h.st.st.keep hk (fun hm => h.st.np (by rw [List.mem_singleton.1 hm]; exact hkp)), h.st.dp, hd, h.st.tab.keep hk (fun b hb hm => (h.st.nm b hb).1 (by rw [List.mem_singleton.1 hm]; exact hkp)), h.st.np, h.st.nm, h.st.good⟩, blk_keep h.g hk (fun hm => h.gk.1 (by rw [List.mem_singleton.1 hm]; exact hkp)), h.gt.keep2 hk (fun hT a ha hm => (h.gs hT a ha).1 (by rw [List.mem_singleton.1 hm]; exact hkp)), h.ot.keep2 hk (fun hT a ha hm => (h.os hT a ha).1 (by rw [List.mem_singleton.1 hm]; exact hkp)), ?_, h.len, h.wl, by have := h.done; show k.done ≤ _; omega, h.own, h.mown, h.pl, h.gl, h.gk, h.gs, h.os, h.kk hk2⟩
  rcases h.mode with ⟨m1, m2, m3⟩ | ⟨m1, at0, turn0, at', turn', m2⟩
  · exact .inl ⟨m1, ⟨m2.w, m2.l, m2.holds, by show lim ≤ k.S.length; rw [h.len]; exact hl⟩, m3⟩
  · exact .inr ⟨m1, at0, turn0, at', turn', m2⟩

/-- Opened anew, where no table turned. -/
theorem PlayI.reopen {p : Nat} {m : Option Nat} {at_ turn : Nat} (h : PlayI w0 wr size gB j s k T GA gn gc OA on oc U) (hk1 : Keeps [] wr w1) (hst : StM w' ⟨p, at_, turn, m, k'.p, false⟩ k' T') (hk : Keeps [] w1 w') (hc : Calm k'.dat at_ turn T') (hlen : k'.S.length = size) (hdone : k'.done ≤ 4 * j) (hall : ∀ b ∈ k'.all, b ∈ k.all ∨ wr.heap.size ≤ b) (hm : ∀ b, m = some b → w1.heap.size ≤ b) (hp : w1.heap.size ≤ p)
    {XA : Option Addr} {xn xc : Nat} (hx : PrsAt wr XA xn T') (hxs : T' ≠ [] → ∀ a, XA = some a → a.block ∉ k.all ∧ a.block ≠ s.p ∧ a.block ≠ gB) {w4 : World} (hk4 : Keeps [gB] w' w4) (hg4 : w4.heap[gB]? = some (.cells #[.slice XA xn xc, .int .i64 (size : Int), .bool false] 34 (0, 0))) :
    PlayI w0 w4 size gB (j + 1) ⟨p, at_, turn, m, k'.p, false⟩ k' T' XA xn xc XA xn xc T' := by
  have hgl := lt_of_heap h.g
  have z1 := hk1.size
  have z2 := hk.size
  have z0 := h.keep.size
  have hout : ∀ b, b < wr.heap.size → b ∉ k.all → b ∉ k'.all ∧ b ≠ p := fun b hb hn => ⟨fun hm2 => by
    rcases hall b hm2 with h9 | h9
    · exact hn h9
    · omega, by omega⟩
  have hg := hout gB hgl h.gk.1
  have hmg : m ≠ some gB := fun e => by have := hm gB e; omega
  have hx1 := (hx.grow hk1).grow hk
  have hxs2 : T' ≠ [] → ∀ a, XA = some a → a.block ∉ k'.all ∧ a.block ≠ p ∧ a.block ≠ gB := fun hT a ha => by
    obtain ⟨q1, q2, q3⟩ := hxs hT a ha
    obtain ⟨r1, r2⟩ := hout a.block (hx.blt hT a ha) q1
    exact ⟨r1, r2, q3⟩
  have hx4 := hx1.keep2 hk4 (fun hT a ha hm2 => (hxs2 hT a ha).2.2 (List.mem_singleton.1 hm2))
  refine ⟨hst.keep hk4 (fun hm2 => hg.2 (List.mem_singleton.1 hm2).symm) (fun b hb hm2 => hg.1 (by rw [← List.mem_singleton.1 hm2]; exact hb)) (fun b hb hm2 => hmg (by rw [← List.mem_singleton.1 hm2]; exact hb)), hg4, hx4, hx4, .inl ⟨rfl, hc, rfl⟩, hlen, calm_wl hc, by omega, fun b hb => ?_, fun b hb => by have := hm b hb; omega, by show w0.heap.size ≤ p; omega, h.gl, ⟨hg.1, hg.2, hmg⟩, hxs2, hxs2, ((h.keep.trans' hk1).trans' hk).trans hk4 (fun x hx => .inr (by rw [List.mem_singleton.1 hx]; exact h.gl))⟩
  rcases hall b hb with hb | hb
  · exact h.own b hb
  · omega

end

end Go.Proofs.YtikfpkeffmbnpaaGreat
