/- bytes.Clone, row.another, row.put: what each leaves in memory. -/
import Derived.Test.YtadpomclnhemoaaD1
import Derived.Deep.RegionLaw
namespace Go.Proofs.Ytadpomclnhemoaa
open Go.RowKit
set_option linter.unusedVariables false

theorem u8_info : (Try.prog.info? 5).map (fun i => (i.zero, i.size, i.bytes)) = some (some (.int .u8 0), 1, 1) := by kernel_rfl

theorem clone_nil (c : Nat) (w : World) : Calls Try.prog 35 #[.slice none 0 c] w fun e w' => e = .returned (.slice none 0 0) ∧ w = w' := by
  have hq := fun (W : World) (a : Option Addr) (n c : Nat) => Lib.run_eql_slice_nil (P := Try.prog) W 29 5 a n c 0 0 Try.underlying29
  go_enter Try.func35, Try.ntmps35
  go_wp2
  go_ret
  exact ⟨rfl, rfl⟩

theorem add_at (g o i : Nat) : (⟨g, o, none⟩ : Addr).add i = ⟨g, o + i, none⟩ := by unfold Addr.add; split <;> simp_all

/-- Cells that an address tells, from a row of bytes at a place of a block. -/
theorem cells_add {w : World} {b o : Nat} {xs : List UInt8} (h : ∀ i u, xs[i]? = some u → w.cell? ⟨b, o + i, none⟩ = some (bv u)) : ∀ j u, (xs.map bv)[j]? = some u → w.cell? ((⟨b, o, none⟩ : Addr).add j) = some u := by
  intro j u hu
  rw [List.getElem?_map, Option.map_eq_some_iff] at hu
  obtain ⟨x, hx, rfl⟩ := hu
  rw [add_at]
  exact h j x hx

theorem cells_alloc {w : World} {ad : Addr} {l : List Value} (h : ∀ j u, l[j]? = some u → w.cell? (ad.add j) = some u) (o : Obj) : ∀ j u, l[j]? = some u → (w.alloc o).cell? (ad.add j) = some u := by
  intro j u hu
  have := h j u hu
  rw [World.cell?_alloc_lt _ _ _ (lt_of_cell this)]
  exact this

theorem clone_some (ad : Addr) (c : Nat) (xs : List UInt8) (w : World) (hl : xs.length ≤ 140737488351232)
    (hc : ∀ j u, (xs.map bv)[j]? = some u → w.cell? (ad.add j) = some u) :
    Calls Try.prog 35 #[.slice (some ad) xs.length c] w fun e w' => ∃ v, e = .returned v ∧ w'.ownsRow w.heap.size 5 1 v xs.length (xs.map bv) ∧ Below w.heap.size w w' ∧ ∃ g, v.ownBlock = some g := by
  have hq := fun (W : World) (a : Option Addr) (n c : Nat) => Lib.run_eql_slice_nil (P := Try.prog) W 29 5 a n c 0 0 Try.underlying29
  obtain ⟨i0, hi, hz0, hz1, hz2⟩ := info_parts u8_info
  have HC := Lib.hid hc
  clear hc
  have HN : Hid ((xs.map bv).length = xs.length * 1) := by show (xs.map bv).length = _; simp
  have HM : xs.length ≤ maxLen := by unfold maxLen; omega
  have HL := Lib.hid hl
  go_enter Try.func35, Try.ntmps35
  go_wp2_with (at_builtin; refine wpList_append_own _ rfl _ _ _ rfl w.heap.size 5 i0 _ 1 1 Try.underlying29 hi hz0 hz1 hz2 rfl (by decide) (.slice (some ⟨w.heap.size, 0, none⟩) 0 0) 0 [] rfl (World.ownsRow_made w #[] 0 (Nat.le_refl _) (by unfold maxLen; omega) rfl) ad xs.length c (xs.map bv) rfl HN.out (cells_alloc HC.out _) bvs_one (by omega) (by omega) (by simp) ?_; intro v' w1 hown hg hnil)
  go_wp2
  go_ret
  refine ⟨v', rfl, by simpa using hown, ?_, ?_⟩
  · exact ((Below.refl _ _).alloc (Nat.le_refl _) _).grown hg (by simp) (by simp [Value.ownBlock])
  · rcases hown.2 with ⟨rfl, _⟩ | ⟨g, cap, cur, rfl, _⟩
    · simp at hnil
    · exact ⟨g, rfl⟩

theorem own_slice {w : World} {base : Nat} {e : TypeId} {k n : Nat} {v : Value} {xs : List Value} (h : w.ownsRow base e k v n xs) : ∃ A c, v = .slice A n c := by
  rcases h.2 with ⟨rfl, rfl⟩ | ⟨g, cap, cur, rfl, _⟩
  · exact ⟨_, _, rfl⟩
  · exact ⟨_, _, rfl⟩

theorem BytesAt.cells {w : World} {ad : Addr} {n c : Nat} {xs : List UInt8} (h : BytesAt w (.slice (some ad) n c) xs) : ∀ j u, (xs.map bv)[j]? = some u → w.cell? (ad.add j) = some u := by
  obtain ⟨A, c', he, h1, h2, h3⟩ := h
  injection he with he _ _
  subst he
  intro j u hu
  have hj : j < xs.length := by
    rcases Nat.lt_or_ge j xs.length with h | h
    · exact h
    · rw [List.getElem?_eq_none (by simpa using h)] at hu; cases hu
  obtain ⟨b, o, h, hc⟩ := h3 (by omega)
  injection h with h
  subst h
  exact cells_add hc j u hu

/-- Clone: nil of nil; else a new row with the same bytes. -/
theorem clone_any (v : Value) (xs : List UInt8) (w : World) (hl : xs.length ≤ 140737488351232) (hv : BytesAt w v xs) :
    Calls Try.prog 35 #[v] w fun e w' => ∃ A c, e = .returned (.slice A xs.length c) ∧ w'.ownsRow w.heap.size 5 1 (.slice A xs.length c) xs.length (xs.map bv) ∧ Below w.heap.size w w' := by
  have hv0 := hv
  obtain ⟨A, c, rfl, h1, h2, h3⟩ := hv
  rcases A with _ | ad
  · rcases Nat.eq_zero_or_pos xs.length with h0 | h0
    · have hx : xs = [] := List.eq_nil_of_length_eq_zero h0
      subst hx
      refine (clone_nil c w).mono ?_
      rintro e w' ⟨rfl, rfl⟩
      exact ⟨_, _, rfl, World.ownsRow_nil _ _ _ _, Below.refl _ _⟩
    · obtain ⟨_, _, h, _⟩ := h3 h0
      cases h
  · refine (clone_some ad c xs w hl hv0.cells).mono ?_
    rintro e w' ⟨v', he, ho, hb, _⟩
    obtain ⟨A, c, rfl⟩ := own_slice ho
    exact ⟨A, c, he, ho, hb⟩

theorem BytesAt.lt {w : World} {v : Value} {xs : List UInt8} (h : BytesAt w v xs) (hn : 0 < xs.length) : ∀ b, v.ownBlock = some b → b < w.heap.size := by
  obtain ⟨A, c, rfl, h1, h2, h3⟩ := h
  obtain ⟨b, o, rfl, hc⟩ := h3 hn
  intro b' hb
  simp only [Value.ownBlock, Option.some.injEq] at hb
  subst hb
  have h0 : xs[0]? = some xs[0] := List.getElem?_eq_getElem hn
  exact lt_of_cell (hc 0 _ h0)

/-- Bytes that lie in old blocks read the same where only new ones have come. -/
theorem BytesAt.grow {w w' : World} {v : Value} {xs : List UInt8} (h : BytesAt w v xs) (hk : Keeps [] w w') : BytesAt w' v xs := h.keep hk (by simp)

/-- The second of two new blocks, behind a call that turned nothing. -/
theorem second_new {w w1 : World} {o1 : Obj} {cs : Array Value} {t : TypeId} (hb : Below ((w.alloc o1).alloc (.cells cs t)).heap.size ((w.alloc o1).alloc (.cells cs t)) w1) : w1.heap[w.heap.size + 1]? = some (.cells cs t (0, 0)) := by
  have h := hb.block (w.heap.size + 1) (by simp)
  rw [h]
  have := heap_alloc_new (w.alloc o1) (.cells cs t)
  simpa using this

theorem cell_of_blk {w : World} {b : Nat} {cs : Array Value} {t : TypeId} (h : w.heap[b]? = some (.cells cs t (0, 0))) (i : Nat) : w.cell? ⟨b, i, none⟩ = cs[i]? := by simp [World.cell?, h]
theorem free_of_blk {w : World} {b : Nat} {cs : Array Value} {t : TypeId} (h : w.heap[b]? = some (.cells cs t (0, 0))) (i : Nat) : w.frozen? ⟨b, i, none⟩ = false := by simp [World.frozen?, h]

theorem another_any (A : Option Addr) (c : Nat) (xs : List UInt8) (w : World) (hl : xs.length ≤ 140737488351232) (hv : BytesAt w (.slice A xs.length c) xs) :
    Calls Try.prog 44 #[.agg #[.slice A xs.length c]] w fun e w' => ∃ A c, e = .returned (.agg #[.slice A xs.length c]) ∧ w'.ownsRow w.heap.size 5 1 (.slice A xs.length c) xs.length (xs.map bv) ∧ Below w.heap.size w w' := by
  have hv2 := Lib.hid (hv.grow (w' := (w.alloc (.cells #[.slice A xs.length c] 59)).alloc (.cells #[.slice none 0 0] 59)) ((((Keeps.refl [] w)).alloc _).alloc _))
  clear hv
  go_enter Try.func44, Try.ntmps44
  go_wp2_with (go_at_call 35; refine (clone_any _ xs _ hl hv2.out).mono ?_; rintro e w1 ⟨A1, c1, rfl, ho, hb⟩; have hs := second_new hb; have hc1 := cell_of_blk hs 0; have hf1 := free_of_blk hs 0; have HS := Lib.hid hs; clear hs; simp at hc1)
  have hb2 : Below w.heap.size w w1 := (((Below.refl _ w).alloc (Nat.le_refl _) _).alloc (by simp) _).trans (hb.mono (by simp; omega))
  refine bodyPost_ret (v := .agg #[.slice A1 xs.length c1]) ?_ rfl ⟨A1, c1, rfl, ?_, hb2.setCell (by simp) _⟩
  · simp [results, Try.results44, go_sem, hc1]
  · refine own_keep (bs := [w.heap.size + 1]) (ho.mono (by simp; omega)) ((Keeps.refl _ _).setCell (by simp) _) (fun b hb => ?_)
    have := (ho.lt b hb).1
    simp at this
    simp
    omega

end Go.Proofs.Ytadpomclnhemoaa
