/- Texts of one proof, laid together: U59 U60. -/
import Derived.Test.YthgpjlmdllihmaaGreatM43
/- For StoreCopies and StoreStops: an append behind a guard; a store's copy. -/
namespace Go.Proofs.YthgpjlmdllihmaaGreat
open Go.RowKit Go.Shelf Go.Maps
set_option linter.unusedVariables false
set_option linter.unusedSimpArgs false
set_option maxRecDepth 100000

/-- An append behind a guard that holds. -/
theorem wpList_append_w {P : Program} {w : World} {ops : Array Oper} {rest : List Oper} {o : Oper} {a : Act} {Q : Exit → Act → World → Prop} (hw : Region.wanted o (yielded ops a.tmps) = true) (s x : Operand) (t : TypeId)
    (ho : o.op = .call { callee := .builtin .append, args := #[s, x], argTypes := #[t, t] })
    (base : Nat) (e : TypeId) (i : TypeInfo) (z : Value) (size bytes : Nat) (ht : P.underlying t = some (.slice e)) (hi : P.info? e = some i) (hz : i.zero = some z)
    (hsize : i.size = size) (hby : i.bytes = bytes) (hzs : z.cells.size = size) (hsz : 0 < size)
    (v : Value) (n : Nat) (xs : List Value) (hs : a.eval s = v) (hown : w.ownsRow base e size v n xs)
    (A : Option Addr) (m c : Nat) (news : List Value) (hx : a.eval x = .slice A m c) (hl : news.length = m * size) (hnews : Src w A m news) (h1 : ∀ u ∈ news, u.oneCell' = true)
    (h63 : n + m ≤ maxLen) (hbytes : (n + m) * bytes ≤ 140737488355328) (hbase : base ≤ w.heap.size)
    (h : ∀ v' w', w'.ownsRow base e size v' (n + m) (xs ++ news) → w.grownBy w' v.ownBlock → (v'.ownBlock = v.ownBlock ∨ v'.ownBlock = some w.heap.size) → wpList P ops Q rest (a.put o.dst v') w') : wpList P ops Q (o :: rest) a w :=
  wpList_step fun K hK => by
    rw [if_pos hw]
    exact wp_append_opt s x t ho base e i z size bytes ht hi hz hsize hby hzs hsz v n xs hs hown A m c news hx hl hnews h1 h63 hbytes hbase fun v' w' h2 h3 h4 => hK _ _ (h v' w' h2 h3 h4)

theorem actCells_one (l : List Act4) : ∀ u ∈ actCells l, u.oneCell' = true := by
  intro u hu
  unfold actCells at hu
  obtain ⟨x, _, hu⟩ := List.mem_flatMap.1 hu
  simp only [List.mem_cons, List.not_mem_nil, or_false] at hu
  rcases hu with rfl | rfl | rfl | rfl | rfl <;> rfl

/-- A copy, where nothing waits on the disk: all its blocks are new, but the table, which is shared. -/
theorem FreeI.copy {w0 wr w' : World} {p kp size j : Nat} {s : St} {k k' : Dk} {T : Tab} {p' : Nat} (h : FreeI w0 p kp size j wr s k T) (hst : StAt w' ⟨p', s.at_, s.turn, s.m, k'.p, s.br⟩) (hd : DiskAt w' k') (he : k'.dat = k.dat) (hfp : ∀ b ∈ k'.fp, wr.heap.size ≤ b) (hp : wr.heap.size ≤ p') (hpn : p' ∉ k'.all) (hk : Keeps [] wr w') :
    FreeI w0 p' k'.p size j w' ⟨p', s.at_, s.turn, s.m, k'.p, s.br⟩ k' T := by
  have z := h.keep.size
  have hW : k'.W = [] := by
    have h1 := h.calm.w
    have h2 : k'.dat.W = [] := by rw [he]; exact h1
    have h3 : k'.dat.W.length = k'.W.length := by simp [Dk.dat]
    rw [h2] at h3
    exact List.eq_nil_of_length_eq_zero h3.symm
  have hall : ∀ b ∈ k'.all, wr.heap.size ≤ b := fun b hb => by
    rcases List.mem_append.1 hb with hb | hb
    · exact hfp b hb
    · rw [hW] at hb; simp at hb
  have hS : k'.S = k.S := dat_S he
  have hli : k'.lim = k.lim := dat_lim he
  have hle : k'.left = k.left := dat_left he
  have hdo : k'.done = k.done := dat_done he
  refine ⟨⟨hst, rfl, hd, h.st.tab.grow hk, hpn, fun b hb => ?_, h.st.good⟩, rfl, rfl, h.br, by rw [he]; exact h.calm, by rw [hS]; exact h.len, by rw [hli]; exact h.lim, by rw [hle]; exact h.left, by rw [hdo]; exact h.done, fun b hb => by have := hall b hb; omega, h.mown, h.keep.trans' hk, by omega⟩
  have hlt := h.st.mlt hb
  exact ⟨fun hm => by have := hall b hm; omega, by show b ≠ p'; omega⟩

end Go.Proofs.YthgpjlmdllihmaaGreat
/- For StoreCopies: Puts in a row; a copy that goes on beside its first. -/
namespace Go.Proofs.YthgpjlmdllihmaaGreat
open Go.RowKit Go.Shelf Go.Maps
set_option linter.unusedVariables false
set_option linter.unusedSimpArgs false
set_option maxRecDepth 100000

/-- A store's numbers and bytes. -/
def FreeI.ps (s : St) (k : Dk) (T : Tab) : PS := ⟨k.dat, s.at_, s.turn, T⟩
/-- Puts in a row. -/
def PS.puts (p : PS) : List (List Chg) → PS
  | [] => p
  | l :: r => PS.puts (p.put l).2 r
theorem PS.puts_snoc (p : PS) : ∀ (ls : List (List Chg)) (l : List Chg), p.puts (ls ++ [l]) = ((p.puts ls).put l).2
  | [], l => rfl
  | x :: r, l => PS.puts_snoc (p.put x).2 r l
theorem Put.puts {w w' : World} {s s' : St} {k k' : Dk} {T T' : Tab} {n : Int} {x : Act4} {p : PS} {L : List Act4} {j : Nat} (h : Put w s k T x.l n s' k' T' w') (he : FreeI.ps s k T = p.puts ((L.take j).map Act4.l)) (hx : L[j]? = some x) :
    FreeI.ps s' k' T' = p.puts ((L.take (j + 1)).map Act4.l) := by
  have h1 : PS.put (FreeI.ps s k T) x.l = (n, FreeI.ps s' k' T') := h.ps
  rw [List.take_add_one, hx, List.map_append]
  show _ = p.puts (_ ++ [x.l])
  rw [PS.puts_snoc, ← he, h1]

theorem Acts4.ins {w : World} {A : Option Addr} {n : Nat} {l : List Act4} (h : Acts4 w A n l) : ∀ x ∈ l, Act4In w x := fun x hx => by
  obtain ⟨i, hi, rfl⟩ := List.getElem_of_mem hx
  obtain ⟨b, o, _, ho⟩ := h.at_ i _ (List.getElem?_eq_getElem hi)
  exact ho.in_

/-- A copy behind w6: all its blocks are new, but its table, which may be the first's. -/
structure ApartI (w6 : World) (m0 : Option Nat) (wr : World) (s : St) (k : Dk) : Prop where
  keep : Keeps [] w6 wr
  pl : w6.heap.size ≤ s.p
  all : ∀ b ∈ k.all, w6.heap.size ≤ b
  m : ∀ b, s.m = some b → m0 = some b ∨ w6.heap.size ≤ b

theorem ApartI.put {w6 wr w' : World} {m0 : Option Nat} {s s' : St} {k k' : Dk} {T T' : Tab} {l : List Chg} {n : Int} (h : ApartI w6 m0 wr s k) (hp : Put wr s k T l n s' k' T' w') : ApartI w6 m0 w' s' k' := by
  have z := h.keep.size
  refine ⟨h.keep.trans hp.keeps (fun x hx => .inr ?_), by rw [hp.p]; exact h.pl, fun b hb => ?_, fun b hb => ?_⟩
  · rcases List.mem_cons.1 hx with hx | hx
    · rw [hx]; exact h.pl
    · exact h.all x (fp_sub hx)
  · rcases hp.all b hb with hb | hb
    · exact h.all b hb
    · omega
  · rcases hp.m b hb with hb | hb
    · exact h.m b hb
    · right; omega

/-- What a store has turned behind w8. -/
structure FirstI (w8 : World) (bs : List Nat) (wr : World) (s : St) (k : Dk) : Prop where
  keep : Keeps bs w8 wr
  p : s.p ∈ bs
  all : ∀ b ∈ k.all, b ∈ bs ∨ w8.heap.size ≤ b

theorem FirstI.put {w8 wr w' : World} {bs : List Nat} {s s' : St} {k k' : Dk} {T T' : Tab} {l : List Chg} {n : Int} (h : FirstI w8 bs wr s k) (hp : Put wr s k T l n s' k' T' w') : FirstI w8 bs w' s' k' := by
  have z := h.keep.size
  refine ⟨h.keep.trans hp.keeps (fun x hx => ?_), by rw [hp.p]; exact h.p, fun b hb => ?_⟩
  · rcases List.mem_cons.1 hx with hx | hx
    · rw [hx]; exact .inl h.p
    · exact h.all x (fp_sub hx)
  · rcases hp.all b hb with hb | hb
    · exact h.all b hb
    · right; omega

theorem all_of_calm {k : Dk} {at_ turn : Nat} {T : Tab} (h : Calm k.dat at_ turn T) : ∀ b ∈ k.all, b ∈ k.fp := fun b hb => by
  have hW : k.W = [] := by
    have h2 : k.dat.W = [] := h.w
    have h3 : k.dat.W.length = k.W.length := by simp [Dk.dat]
    rw [h2] at h3
    exact List.eq_nil_of_length_eq_zero h3.symm
  rcases List.mem_append.1 hb with hb | hb
  · exact hb
  · rw [hW] at hb; simp at hb

theorem FreeI.apart {w0 wr w' : World} {p kp size j : Nat} {s : St} {k k' : Dk} {T : Tab} {p' : Nat} (h : FreeI w0 p kp size j wr s k T) (he : k'.dat = k.dat) (hfp : ∀ b ∈ k'.fp, wr.heap.size ≤ b) (hp : wr.heap.size ≤ p') (hk : Keeps [] wr w') :
    ApartI wr s.m w' ⟨p', s.at_, s.turn, s.m, k'.p, s.br⟩ k' :=
  ⟨hk, hp, fun b hb => hfp b (all_of_calm (by rw [he]; exact h.calm) b hb), fun b hb => .inl hb⟩

/-- Behind what the first has turned, the copy stands as it did. -/
theorem ApartI.beside {w6 w8 w10 wr : World} {s0 sc : St} {k0 kc : Dk} {T0 Tc : Tab} {s : St} {k : Dk} (h : ApartI w6 s0.m w8 sc kc) (hc : StM w8 sc kc Tc) (h0 : StM w6 s0 k0 T0) (hk : Keeps [] w8 w10) (hf : FirstI w10 (s0.p :: k0.all) wr s k) : StM wr sc kc Tc := by
  have z := h.keep.size
  refine (hc.grow hk).keep hf.keep (fun hx => ?_) (fun b hb hx => ?_) (fun b hb hx => ?_)
  · have := h.pl
    rcases List.mem_cons.1 hx with hx | hx
    · have := h0.st.lt; omega
    · have := h0.disk.lt _ hx; omega
  · have := h.all b hb
    rcases List.mem_cons.1 hx with hx | hx
    · have := h0.st.lt; omega
    · have := h0.disk.lt _ hx; omega
  · rcases h.m b hb with hm | hm
    · obtain ⟨q1, q2⟩ := h0.nm b hm
      rcases List.mem_cons.1 hx with hx | hx
      · exact q2 hx
      · exact q1 hx
    · rcases List.mem_cons.1 hx with hx | hx
      · have := h0.st.lt; omega
      · have := h0.disk.lt _ hx; omega

end Go.Proofs.YthgpjlmdllihmaaGreat
