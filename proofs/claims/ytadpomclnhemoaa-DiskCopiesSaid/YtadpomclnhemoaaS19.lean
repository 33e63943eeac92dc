/- DiskCopies: copies, and what is the same. -/
import Derived.Test.YtadpomclnhemoaaS14
import Derived.Test.YtadpomclnhemoaaR10
namespace Go.Proofs.Ytadpomclnhemoaa
open Go.RowKit
set_option linter.unusedVariables false

theorem Agree.of_dat {k k' : Dk} {r : Rf} (h : Agree k r) (hd : k'.dat = k.dat) : Agree k' r :=
  ⟨(congrArg Dat.L hd).trans h.L, (congrArg Dat.W hd).trans h.W, (congrArg Dat.lim hd).trans h.lim, (congrArg Dat.left hd).trans h.left, (congrArg Dat.done hd).trans h.done, by rw [hd]; exact h.ok⟩

theorem same_agree {k m : Dk} {r q : Rf} (hk : Agree k r) (hm : Agree m q) : sameDat k.dat m.dat = true ↔ (r.L = q.L ∧ r.armed = q.armed ∧ r.lim = q.lim ∧ sameWs (wdat r.W) (wdat q.W) = true) := by
  have e1 : k.dat.L = r.L := hk.L
  have e2 : m.dat.L = q.L := hm.L
  have e3 : k.dat.W = wdat r.W := hk.W
  have e4 : m.dat.W = wdat q.W := hm.W
  have e5 : k.dat.lim = r.lim := hk.lim
  have e6 : m.dat.lim = q.lim := hm.lim
  have e7 : k.dat.left = r.armed := hk.left
  have e8 : m.dat.left = q.armed := hm.left
  have e9 : k.dat.S = layAll r.L (wdat r.W) := hk.S
  have e10 : m.dat.S = layAll q.L (wdat q.W) := hm.S
  unfold sameDat
  rw [e1, e2, e3, e4, e5, e6, e7, e8, e9, e10]
  simp only [List.all_cons, List.all_nil, id, Bool.and_true, Bool.and_eq_true, beq_iff_eq]
  constructor
  · rintro ⟨_, h2, h3, h4, h5⟩
    exact ⟨h2, h5, by omega, h3⟩
  · rintro ⟨h1, h2, h3, h4⟩
    exact ⟨by rw [h1, sameWs_eq h4], h1, h4, by omega, h2⟩

theorem bool_of_iff {a b : Bool} (h : a = true ↔ b = true) : a = b := by
  cases a <;> cases b <;> simp_all

theorem refsame_agree (k m : Dk) (r q : Rf) (w : World) (h : RefAt w r) (g : RefAt w q) (hk : Agree k r) (hm : Agree m q) (hW : r.W.length ≤ 1000000) :
    Calls Try.prog 25 #[r.v, q.v] w fun e w' => e = .returned (.bool (sameDat k.dat m.dat)) ∧ Keeps [] w w' := by
  by_cases hne : r.L = q.L ∧ r.W.length = q.W.length ∧ r.armed = q.armed ∧ r.lim = q.lim
  · obtain ⟨e1, e2, e3, e4⟩ := hne
    have ea : sameDat k.dat m.dat = sameWs (wdat r.W) (wdat q.W) := bool_of_iff ((same_agree hk hm).trans ⟨fun hh => hh.2.2.2, fun hh => ⟨e1, e3, e4, hh⟩⟩)
    have ev : q.v = .agg #[.slice q.AL r.L.length q.cL, .slice q.AW r.W.length q.cW, .int .i64 r.armed, .int .i64 (r.lim : Int), .int .i64 (q.done : Int)] := by
      unfold Rf.v
      rw [e1, e2, e3, e4]
    have b2 : BytesAt w (.slice q.AL r.L.length q.cL) r.L := by
      rw [e1]
      exact g.la
    have o2 : w.ownsRow 0 88 2 (.slice q.AW r.W.length q.cW) r.W.length (wcells q.W) := by
      rw [e2]
      exact g.wa
    rw [ea, ev]
    refine (refsame_walk r.AL q.AL r.AW q.AW r.cL q.cL r.L.length r.W.length r.cW q.cW r.L r.W q.W r.armed r.lim r.done q.done w rfl h.la b2 h.wa o2 rfl e2.symm hW (fun x hx => ⟨(h.fit x hx).1, by have := (h.fit x hx).2; have := h.big; omega⟩) (fun x hx => ⟨(g.fit x hx).1, by have := (g.fit x hx).2; have := g.big; omega⟩)).mono ?_
    rintro e w' ⟨he, hb⟩
    exact ⟨he, Keeps.of_below hb⟩
  · have ea : sameDat k.dat m.dat = false := by
      cases hs : sameDat k.dat m.dat with
      | false => rfl
      | true =>
        obtain ⟨h1, h2, h3, h4⟩ := (same_agree hk hm).1 hs
        refine absurd ⟨h1, ?_, h2, h3⟩ hne
        have := congrArg List.length (sameWs_eq h4)
        simpa [wdat] using this
    rw [ea]
    refine (refsame_no r q w h g hne).mono ?_
    rintro e w' ⟨he, hb⟩
    exact ⟨he, Keeps.of_below hb⟩

/-- A copy begins to go on apart: all that is older stays. -/
theorem pi_copied {w0 w1 w2 : World} {size j : Nat} {k k' : Dk} {r : Rf} (h : PI w0 size j w1 k r) (hc : Copied w1 k w2 k') : PI w0 size j w2 k' r := by
  have hp := h.pair
  have hz := h.keeps.size
  have hS : k'.S = k.S := dat_S hc.dat
  have hl : k'.W.length = k.W.length := by
    have := dat_len hc.dat
    simpa [Dk.dat] using this
  have hdn : k'.done = k.done := dat_done hc.dat
  refine ⟨⟨hc.disk, hp.ref.grow hc.keeps, hp.ag.of_dat hc.dat, fun b hb hf => ?_⟩, fun b hb => Nat.le_trans hz (hc.fp b hb), h.keeps.trans' hc.keeps, by rw [hS]; exact h.many, by rw [hl]; exact h.wait, by rw [hdn]; exact h.done⟩
  have := hc.fp b hf
  have := hp.ref.lt b hb
  omega

/-- A block apart from a disk is apart from its copy. -/
theorem Copied.apart {w w' : World} {k k' : Dk} {b : Nat} (hc : Copied w k w' k') (h1 : b ∉ k.all) (h2 : b < w.heap.size) : b ∉ k'.all := fun hm => by
  rcases hc.all b hm with h | h
  · omega
  · exact h1 h.1

/-- A call on the copy: what is older than the copy stays, but for the box. -/
theorem old_went {w5 wr W w1 : World} {gB : Nat} {k k' : Dk} {r q : Rf} (hk : Keeps [gB] w5 wr) (hf : ∀ b ∈ k.fp, w5.heap.size ≤ b) (h1 : Keeps [] wr W) (hw : Went W k r w1 k' q) (a b c d e : Value) :
    Keeps [gB] w5 (((((w1.setCell ⟨gB, 0, none⟩ a).setCell ⟨gB, 1, none⟩ b).setCell ⟨gB, 2, none⟩ c).setCell ⟨gB, 3, none⟩ d).setCell ⟨gB, 4, none⟩ e) ∧ ∀ b ∈ k'.fp, w5.heap.size ≤ b := by
  have h2 : Keeps [gB] w5 W := hk.trans h1 (fun y hy => by simp at hy)
  have h3 : Keeps [gB] w5 w1 := h2.trans hw.keeps (fun y hy => .inr (hf y hy))
  refine ⟨h3.trans (Keeps.five gB _ _ _ _ _) (by simp), fun b hb => ?_⟩
  rcases hw.kfp b hb with h | h
  · exact hf b h
  · have := h2.size
    omega

/-- Behind both loops: the disk, its copy of old, the copy that went on; the document's of then, and of now. -/
structure Fin2 (wr : World) (k ko kc : Dk) (r q : Rf) (wB gB : Nat) : Prop where
  dk : DiskAt wr k
  dko : DiskAt wr ko
  dkc : DiskAt wr kc
  rr : RefAt wr r
  rq : RefAt wr q
  ak : Agree k r
  ac : Agree kc q
  od : ko.dat = k.dat
  bw : wr.heap[wB]? = some r.box
  bg : wr.heap[gB]? = some q.box
  n1 : k.W.length ≤ 100
  n2 : k.done ≤ 100
  n3 : kc.W.length ≤ 100
  n4 : kc.done ≤ 100

section
variable {wr w' : World} {k ko kc : Dk} {r q : Rf} {wB gB : Nat}

theorem Fin2.grow (h : Fin2 wr k ko kc r q wB gB) (hk : Keeps [] wr w') : Fin2 w' k ko kc r q wB gB :=
  ⟨h.dk.grow hk, h.dko.grow hk, h.dkc.grow hk, h.rr.grow hk, h.rq.grow hk, h.ak, h.ac, h.od, blk_keep h.bw hk (by simp), blk_keep h.bg hk (by simp), h.n1, h.n2, h.n3, h.n4⟩

theorem fin_then (h : Fin2 wr k ko kc r q wB gB) :
    Calls Try.prog 14 #[.pointer (some ⟨k.p, 0, none⟩), .agg #[.slice r.AL r.L.length r.cL, .slice r.AW r.W.length r.cW, .int .i64 r.armed, .int .i64 (r.lim : Int), .int .i64 (r.done : Int)]] wr fun e w' => e = .returned (.bool true) ∧ Keeps [] wr w' :=
  lawsame_true k r wr h.dk h.rr h.ak (by have := h.ak.wlen; have := h.n1; omega) (by have := h.ak.done; have := h.n2; omega)

theorem fin_now (h : Fin2 wr k ko kc r q wB gB) :
    Calls Try.prog 14 #[.pointer (some ⟨kc.p, 0, none⟩), .agg #[.slice q.AL q.L.length q.cL, .slice q.AW q.W.length q.cW, .int .i64 q.armed, .int .i64 (q.lim : Int), .int .i64 (q.done : Int)]] wr fun e w' => e = .returned (.bool true) ∧ Keeps [] wr w' :=
  lawsame_true kc q wr h.dkc h.rq h.ac (by have := h.ac.wlen; have := h.n3; omega) (by have := h.ac.done; have := h.n4; omega)

theorem fin_old (h : Fin2 wr k ko kc r q wB gB) :
    Calls Try.prog 24 #[.pointer (some ⟨k.p, 0, none⟩), .pointer (some ⟨ko.p, 0, none⟩)] wr fun e w' => e = .returned (.bool true) ∧ Keeps [] wr w' := by
  have hl : ko.W.length = k.W.length := by
    have := dat_len h.od
    simpa [Dk.dat] using this
  refine (same_any k ko wr h.dk h.dko (by have := h.n1; omega) (by have := h.n1; omega)).mono ?_
  rintro e w' ⟨rfl, hb⟩
  rw [h.od, sameDat_self]
  exact ⟨rfl, Keeps.of_below hb⟩

theorem fin_apart (h : Fin2 wr k ko kc r q wB gB) :
    Calls Try.prog 24 #[.pointer (some ⟨k.p, 0, none⟩), .pointer (some ⟨kc.p, 0, none⟩)] wr fun e w' => e = .returned (.bool (sameDat k.dat kc.dat)) ∧ Keeps [] wr w' := by
  refine (same_any k kc wr h.dk h.dkc (by have := h.n1; omega) (by have := h.n3; omega)).mono ?_
  rintro e w' ⟨rfl, hb⟩
  exact ⟨rfl, Keeps.of_below hb⟩

theorem fin_self (h : Fin2 wr k ko kc r q wB gB) :
    Calls Try.prog 24 #[.pointer (some ⟨kc.p, 0, none⟩), .pointer (some ⟨kc.p, 0, none⟩)] wr fun e w' => e = .returned (.bool true) ∧ Keeps [] wr w' := by
  refine (same_any kc kc wr h.dkc h.dkc (by have := h.n3; omega) (by have := h.n3; omega)).mono ?_
  rintro e w' ⟨rfl, hb⟩
  rw [sameDat_self]
  exact ⟨rfl, Keeps.of_below hb⟩

theorem fin_ref (h : Fin2 wr k ko kc r q wB gB) :
    Calls Try.prog 25 #[.agg #[.slice r.AL r.L.length r.cL, .slice r.AW r.W.length r.cW, .int .i64 r.armed, .int .i64 (r.lim : Int), .int .i64 (r.done : Int)], .agg #[.slice q.AL q.L.length q.cL, .slice q.AW q.W.length q.cW, .int .i64 q.armed, .int .i64 (q.lim : Int), .int .i64 (q.done : Int)]] wr fun e w' => e = .returned (.bool (sameDat k.dat kc.dat)) ∧ Keeps [] wr w' :=
  refsame_agree k kc r q wr h.rr h.rq h.ak h.ac (by have := h.ak.wlen; have := h.n1; omega)

theorem fin_known (wr : World) : Calls Try.prog 10 #[] wr fun e w' => e = .returned (.bool true) ∧ Keeps [] wr w' :=
  (known_any wr).mono fun _ _ ⟨h1, h2⟩ => ⟨h1, Keeps.of_below h2⟩
end

/-- What stood when the copy was made. -/
structure Then (w5 : World) (k ko : Dk) (r : Rf) (wB gB : Nat) : Prop where
  dk : DiskAt w5 k
  dko : DiskAt w5 ko
  rr : RefAt w5 r
  bw : w5.heap[wB]? = some r.box
  g1 : gB ∉ k.all
  g2 : gB ∉ ko.all
  g3 : gB ∉ r.all
  ne : wB ≠ gB
  ak : Agree k r
  od : ko.dat = k.dat
  n1 : k.W.length ≤ 100
  n2 : k.done ≤ 100

theorem fin_make {w0 w5 wr : World} {size j wB gB : Nat} {k ko kc : Dk} {r q : Rf} (h : Then w5 k ko r wB gB) (hk : Keeps [gB] w5 wr) (hp : PI w0 size j wr kc q) (hj : j ≤ 100) (hg : wr.heap[gB]? = some q.box) : Fin2 wr k ko kc r q wB gB := by
  have a1 := hp.wait
  have a2 := hp.done
  refine ⟨h.dk.keep hk (fun y hy hm => ?_), h.dko.keep hk (fun y hy hm => ?_), hp.pair.disk, h.rr.keep hk (fun y hy hm => ?_), hp.pair.ref, h.ak, hp.pair.ag, h.od, blk_keep h.bw hk (by rw [List.mem_singleton]; exact h.ne), hg, h.n1, h.n2, by omega, by omega⟩
  · rw [List.mem_singleton] at hm; exact h.g1 (hm ▸ hy)
  · rw [List.mem_singleton] at hm; exact h.g2 (hm ▸ hy)
  · rw [List.mem_singleton] at hm; exact h.g3 (hm ▸ hy)

theorem then_make {w0 wa w5 : World} {size j wB gB : Nat} {k ko : Dk} {r : Rf} (hp : PI w0 size j wa k r) (hj : j ≤ 100) (hc : Copied wa k w5 ko) (hb : wa.heap[wB]? = some r.box) (hg : wa.heap[gB]? = some r.box ∧ gB ∉ k.all ∧ gB ∉ r.all) (ne : wB ≠ gB) : Then w5 k ko r wB gB :=
  ⟨hp.pair.disk.grow hc.keeps, hc.disk, hp.pair.ref.grow hc.keeps, blk_keep hb hc.keeps (by simp), hg.2.1, hc.apart hg.2.1 (lt_of_heap hg.1), hg.2.2, ne, hp.pair.ag, hc.dat, by have := hp.wait; omega, by have := hp.done; omega⟩

end Go.Proofs.Ytadpomclnhemoaa
