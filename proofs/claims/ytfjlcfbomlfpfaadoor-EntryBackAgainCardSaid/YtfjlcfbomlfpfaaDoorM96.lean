/- Texts of one proof, laid together: X21 X22. -/
import Derived.Test.YtfjlcfbomlfpfaaDoorM95
import Derived.Test.YtfjlcfbomlfpfaaDoorM84
import Derived.Test.YtfjlcfbomlfpfaaDoorM83
import Derived.Test.YtfjlcfbomlfpfaaDoorM88
import GoSem.ClaimJoined
/- entry: EntryBackAgain; walked. -/
namespace Go.Proofs.YtfjlcfbomlfpfaaDoor
open Go.RowKit Go.Shelf
set_option linter.unusedVariables false
set_option linter.unusedSimpArgs false
set_option maxRecDepth 100000

theorem append_alike {P : Program} {w : World} {t u ty e e2 : TypeId} {v x : Value} (ht : P.underlying t = some (.slice e)) (hu : P.underlying u = some (.slice e2)) : (Builtin.append_ #[t, u] ty #[v, x]).run P w = (Builtin.append_ #[t, t] ty #[v, x]).run P w := by
  cases v <;> simp [Builtin.append_, run_underlying ht, run_underlying hu]
/-- An append whose two types are not the same, but slices both. -/
theorem wpList_append_two {P : Program} {w : World} {ops : Array Oper} {rest : List Oper} {o : Oper} {a : Act} {Q : Exit → Act → World → Prop} (hgd : o.guard = none) (s x : Operand) (t u : TypeId)
    (ho : o.op = .call { callee := .builtin .append, args := #[s, x], argTypes := #[t, u] })
    (base : Nat) (e e2 : TypeId) (i : TypeInfo) (z : Value) (size bytes : Nat) (ht : P.underlying t = some (.slice e)) (hu : P.underlying u = some (.slice e2)) (hi : P.info? e = some i) (hz : i.zero = some z)
    (hsize : i.size = size) (hby : i.bytes = bytes) (hzs : z.cells.size = size) (hsz : 0 < size)
    (v : Value) (n : Nat) (xs : List Value) (hs : a.eval s = v) (hown : w.ownsRow base e size v n xs)
    (A : Option Addr) (m c : Nat) (news : List Value) (hx : a.eval x = .slice A m c) (hl : news.length = m * size) (hnews : Src w A m news) (h1 : ∀ u ∈ news, u.oneCell' = true)
    (h63 : n + m ≤ maxLen) (hbytes : (n + m) * bytes ≤ 140737488355328) (hbase : base ≤ w.heap.size)
    (h : ∀ v' w', w'.ownsRow base e size v' (n + m) (xs ++ news) → w.grownBy w' v.ownBlock → (v'.ownBlock = v.ownBlock ∨ v'.ownBlock = some w.heap.size) → wpList P ops Q rest (a.put o.dst v') w') : wpList P ops Q (o :: rest) a w := by
  refine wpList_plain hgd fun K hK => ?_
  obtain ⟨v', w', hr, h2, h3, h4⟩ := run_append_opt (P := P) (w := w) base t o.type e i z size bytes ht hi hz hsize hby hzs hsz v n xs hown A m c news hl hnews h1 h63 hbytes hbase
  rw [← append_alike ht hu] at hr
  unfold Oper.wp execOp
  simp only [ho, resolve, invoke, builtin, Sem.run_bind, Sem.run_pure, Result.andThen_ok, List.map_toArray, List.map_cons, List.map_nil, hs, hx, hr]
  exact hK _ _ (h v' w' h2 h3 h4)
theorem samee_is (A : Option Addr) (n c : Nat) (B : Option Addr) (m d : Nat) (l : List At7) (E : List Att) (X : World) {Y : World} (h1 : EntQ E Y A n c X) (hE : E.length ≤ 24 ∧ ∀ a ∈ E, a.2.length ≤ 16) (h2 : EntIn X B m l) :
    Calls Tryd.prog 9 #[.slice A n c, .slice B m d] X fun e w' => e = .returned (.bool (E == ents l)) ∧ Keeps [] X w' := by
  obtain ⟨L, e1, i1, g1⟩ := h1.few (m := 100000) (by omega) (fun a ha => by have := hE.2 a ha; omega)
  have := rsame7_is A B n c m d L l X i1 h2 g1
  rw [e1] at this
  exact this
set_option maxHeartbeats 16000000 in
theorem entryback_any (A : Option Addr) (n c : Nat) (l : List At7) (nm : Txt) (B : Option Addr) (m d : Nat) (vs : List Txt) (w : World) (h : EntIn w A n l) (hx : At7.fits w ⟨nm, B, m, d, vs⟩) (hn : n ≤ 3518437208780) (hp : PowAt w) :
    Calls Tryd.prog 3 #[.slice A n c, tv nm, .slice B m d] w fun e w' => e = .returned (.bool true) ∧ Keeps [] w w' := by
  obtain ⟨iu, hiu, hzu0, hzu1, hzu2⟩ := info_parts attr_info7
  have HE1 := Lib.hid h
  have HXF := Lib.hid hx
  have HSR := Lib.hid (EntIn.src h)
  have HLL : Hid ((atCells l).length = n * 2) := by show _ = _; rw [atCells_len, h.1]
  have HMD := Lib.hid (fun (x y : Mod7) (X : World) (fx : x.a.fits X) (fy : y.a.fits X) => mods_lit X [x, y] 2 #[.int .i64 x.k, tv x.a.name, .slice x.a.A x.a.n x.a.c, .int .i64 y.k, tv y.a.name, .slice y.a.A y.a.n y.a.c] rfl rfl (by omega) (fun m hm => by
    simp at hm
    rcases hm with rfl | rfl
    · exact fx
    · exact fy))
  have HDD := Lib.hid (fun (x y : Mod7) (X : World) (hX : Keeps [] w X) (hf : Few7 1000 l) (fx : x.a.fits X) (fy : y.a.fits X) (hf2 : FewM 1000 [x, y]) => do_is A n c l (some ⟨X.heap.size, 0, none⟩) 2 2 [x, y] _ (EntIn.grow (hX.alloc _) h) hf (HMD.out x y X fx fy) hf2)
  have HKN := Lib.hid (fun X (hX : Keeps [] w X) => known7_is X (hp.keep hX))
  have HGT := Lib.hid (fun (X : World) (hX : Keeps [] w X) (hf : Few7 100000 l) => get_is A n c l nm X (EntIn.grow hX h) hf hx.1)
  unfold tv at HDD ⊢
  unfold tv at HGT
  clear h hx hp
  go_enter Tryd.func3, Tryd.ntmps3
  go_wp2_with (first
    | (at_builtin; refine wpList_append_two rfl (.const (.slice none 0 0)) (.tmp 12) 22 23 rfl w.heap.size 27 27 iu _ 2 40 Tryd.underlying22 Tryd.underlying23 hiu hzu0 hzu1 hzu2 rfl (by decide) (.slice none 0 0) 0 [] rfl (World.ownsRow_nil _ _ _ _) A n c (atCells l) rfl HLL.out HSR.out (atCells_one l) (by unfold maxLen; omega) (by omega) (Nat.le_refl _) ?_; intro v1 w1 ho1 hg1 hs1; obtain ⟨A1, c1, hv1⟩ := own_slice ho1; subst hv1; rw [Nat.zero_add, List.nil_append] at ho1; rw [Nat.zero_add]; have HS1 : Hid (SetS w w1 A1 n c1 l (ents l)) := ⟨rfl, HE1.out.1, ho1, HE1.out.2.1, keeps_own7 (World.ownsRow_nil w w.heap.size 27 2) (Keeps.refl _ _) hg1⟩; clear ho1 hg1 hs1)
    | (at_builtin; refine wpList_append_opt rfl (.tmp 13) (.tmp 17) 22 rfl w.heap.size 27 iu _ 2 40 Tryd.underlying22 hiu hzu0 hzu1 hzu2 rfl (by decide) (.slice A1 n c1) n (atCells l) rfl (own_keep HS1.out.row ((Keeps.refl [] w1).alloc _) (by simp)) (some ⟨w1.heap.size, 0, none⟩) 1 1 [tv nm, .slice B m d] rfl rfl (src_at7 w1 ⟨nm, B, m, d, vs⟩ _) (by intro u hu; simp at hu; rcases hu with rfl | rfl <;> rfl) (by unfold maxLen; omega) (by omega) (by have h9 := HS1.out.keep.size; simp; omega) ?_; intro v2 w2 ho2 hg2 hs2; obtain ⟨A2, c2, hv2⟩ := own_slice ho2; subst hv2; have HS2 := Lib.hid (HS1.out.snoc ⟨nm, B, m, d, vs⟩ ((Keeps.refl [] w1).alloc _) hg2 ho2 HXF.out); clear ho2 hg2 hs2))
  have h9 := HS2.out
  have HLI := Lib.hid (light7_is A2 (n + 1) c2 (l ++ [⟨nm, B, m, d, vs⟩]) w2 (EntIn.of_own h9.row h9.len (fun a ha => (h9.fits a ha).grow h9.keep)))
  have HK2 := Lib.hid h9.keep
  clear h9
  refine HLI.out.mono ?_
  rintro e w3 ⟨r1, rfl, hr1, rfl⟩
  have HR1 := Lib.hid hr1
  clear hr1
  cases r1
  · go_wp2_with fail
    refine (HKN.out _ HK2.out).mono ?_
    rintro e y1 ⟨rfl, hy1⟩
    have HY1 := Lib.hid (HK2.out.trans' hy1)
    clear hy1
    go_wp2_with fail
    go_ret
    exact ⟨rfl, HY1.out⟩
  · obtain ⟨g1, g2⟩ := HR1.out (by first | exact trivial | rfl)
    have hf : Few7 1000 l := ⟨by rw [List.length_append] at g1; simp at g1; omega, fun a ha => by have := (g2 a (List.mem_append.2 (.inl ha))).1; omega⟩
    have hm20 : m ≤ 20 := (g2 ⟨nm, B, m, d, vs⟩ (List.mem_append.2 (.inr (by simp)))).1
    have hf5 : Few7 100000 l := ⟨by have := hf.1; omega, fun a ha => by have := hf.2 a ha; omega⟩
    have HGG := Lib.hid (HGT.out _ HK2.out hf5)
    have HDO := Lib.hid (fun (x y : Mod7) (X : World) (hX : Keeps [] w X) => HDD.out x y X hX hf)
    have HWL : Hid ((cont2 (ents l) (smallL nm)).length ≤ 1000) := by
      show _ ≤ _
      by_cases hk : cont2 (ents l) (smallL nm) = []
      · rw [hk]; simp
      · have h8 := cont2_ne hk
        unfold ents at h8
        obtain ⟨a, ha, he⟩ := List.mem_map.1 h8
        have h7 := hf.2 a ha
        rw [← (HE1.out.2.1 a ha).2.2.2.1] at h7
        have h6 : a.vs = cont2 (ents l) (smallL nm) := congrArg Prod.snd he
        rw [h6] at h7
        exact h7
    have HWT : Hid (∀ s ∈ cont2 (ents l) (smallL nm), s.length ≤ 9223372036854775807) := by
      intro s hs
      by_cases hk : cont2 (ents l) (smallL nm) = []
      · rw [hk] at hs; cases hs
      · have h8 := cont2_ne hk
        unfold ents at h8
        obtain ⟨a, ha, he⟩ := List.mem_map.1 h8
        have h6 : a.vs = cont2 (ents l) (smallL nm) := congrArg Prod.snd he
        exact (HE1.out.2.1 a ha).2.2.2.2.1 s (by rw [h6]; exact hs)
    have HBR := Lib.hid (fun E => back_rep (e := ents l) (E := E) (nm := nm) (vs := vs))
    have HBA := Lib.hid (fun E => back_add (e := ents l) (E := E) (nm := nm) (vs := vs))
    obtain ⟨was, hwas⟩ : ∃ was, cont2 (ents l) (smallL nm) = was := ⟨_, rfl⟩
    rw [hwas] at HGG HWL HWT HBR
    have HFL := Lib.hid hf5
    clear g1 g2 hf hf5 hwas HLI HR1 HDD HGT
    unfold ValsQ at HGG
    go_wp2_with fail
    refine HGG.out.mono ?_
    rintro e w4 ⟨A4, c4, rfl, ho4, hk4⟩
    have HK4 : Hid (Keeps [] w w4) := HK2.out.trans' hk4
    have HW4 : Hid (At7.fits w4 ⟨nm, A4, was.length, c4, was⟩) := ⟨HXF.out.1, (own_caps ho4).1, (own_caps ho4).2, StrsIn.of_own ho4 rfl HWT.out⟩
    have HX4 : Hid (At7.fits w4 ⟨nm, B, m, d, vs⟩) := HXF.out.grow HK4.out
    clear ho4 hk4 HGG
    have hD1 := HDO.out ⟨1, ⟨nm, B, m, d, vs⟩⟩ ⟨2, ⟨nm, B, m, d, vs⟩⟩ w4 HK4.out HX4.out HX4.out ⟨by simp, fun x hx => by simp at hx; rcases hx with rfl | rfl <;> (show m ≤ 1000; omega)⟩
    rw [show modsOf [⟨1, ⟨nm, B, m, d, vs⟩⟩, ⟨2, ⟨nm, B, m, d, vs⟩⟩] = [((1 : Int), (nm, vs)), ((2 : Int), (nm, vs))] from rfl] at hD1
    obtain ⟨P1, hP1⟩ : ∃ P, doP (ents l) [((1 : Int), (nm, vs)), ((2 : Int), (nm, vs))] = P := ⟨_, rfl⟩
    rw [hP1] at hD1
    obtain ⟨E1, no1⟩ := P1
    have HD1 := Lib.hid hD1
    have HF1 := Lib.hid (do_few2 hP1)
    have HB1 : Hid (no1 = 0 → E1 = ents l) := fun h0 => HBA.out E1 (by rw [hP1, h0])
    dsimp only at HD1
    clear hD1 hP1
    go_wp2_with fail
    refine HD1.out.mono ?_
    rintro e w5 ⟨A5, n5, c5, rfl, hQ5, hk5⟩
    have HQ5 : Hid (EntQ E1 w A5 n5 c5 w5) := hQ5
    have HK45 : Hid (Keeps [] w4 w5) := ((Keeps.refl [] w4).alloc _).trans' hk5
    have HK5 : Hid (Keeps [] w w5) := HK4.out.trans' HK45.out
    clear hQ5 hk5 HD1
    have hD2 := HDO.out ⟨3, ⟨nm, B, m, d, vs⟩⟩ ⟨3, ⟨nm, A4, was.length, c4, was⟩⟩ w5 HK5.out (HX4.out.grow HK45.out) (HW4.out.grow HK45.out) ⟨by simp, fun x hx => by simp at hx; rcases hx with rfl | rfl; (show m ≤ 1000; omega); (show was.length ≤ 1000; exact HWL.out)⟩
    rw [show modsOf [⟨3, ⟨nm, B, m, d, vs⟩⟩, ⟨3, ⟨nm, A4, was.length, c4, was⟩⟩] = [((3 : Int), (nm, vs)), ((3 : Int), (nm, was))] from rfl] at hD2
    obtain ⟨P2, hP2⟩ : ∃ P, doP (ents l) [((3 : Int), (nm, vs)), ((3 : Int), (nm, was))] = P := ⟨_, rfl⟩
    rw [hP2] at hD2
    obtain ⟨E2, no2⟩ := P2
    have HD2 := Lib.hid hD2
    have HF2 := Lib.hid (do_few2 hP2)
    have HB2 : Hid (no2 = 0 → E2 = ents l) := fun h0 => HBR.out E2 (by rw [hP2, h0])
    dsimp only at HD2
    clear hD2 hP2 HDO HBA HBR
    go_wp2_with fail
    refine HD2.out.mono ?_
    rintro e w6 ⟨A6, n6, c6, rfl, hQ6, hk6⟩
    have HQ6 : Hid (EntQ E2 w A6 n6 c6 w6) := hQ6
    have HK56 : Hid (Keeps [] w5 w6) := ((Keeps.refl [] w5).alloc _).trans' hk6
    have HK6 : Hid (Keeps [] w w6) := HK5.out.trans' HK56.out
    clear hQ6 hk6 HD2
    have HSA := Lib.hid (fun (X : World) (hX : Keeps [] w6 X) => samee_is A5 n5 c5 A n c l E1 X (EntQ.grow (HK56.out.trans' hX) HQ5.out) HF1.out (EntIn.grow (HK6.out.trans' hX) HE1.out))
    have HSB := Lib.hid (fun (X : World) (hX : Keeps [] w6 X) => samee_is A6 n6 c6 A n c l E2 X (EntQ.grow hX HQ6.out) HF2.out (EntIn.grow (HK6.out.trans' hX) HE1.out))
    by_cases h1 : no1 = 0
    · have hq : (E1 == ents l) = true := by rw [HB1.out h1]; simp
      subst h1
      have HSS := Lib.hid (HSA.out _ (Keeps.refl _ _))
      rw [hq] at HSS
      clear hq
      go_wp2_with fail
      refine HSS.out.mono ?_
      rintro e x1 ⟨rfl, hk8⟩
      have HK66 := Lib.hid hk8
      have HK8 : Hid (Keeps [] w x1) := HK6.out.trans' hk8
      clear hk8
      by_cases h2 : no2 = 0
      · have hq : (E2 == ents l) = true := by rw [HB2.out h2]; simp
        subst h2
        have HSS := Lib.hid (HSB.out _ HK66.out)
        rw [hq] at HSS
        clear hq
        go_wp2_with fail
        refine HSS.out.mono ?_
        rintro e x2 ⟨rfl, hk9⟩
        have HK9 := Lib.hid (HK8.out.trans' hk9)
        clear hk9
        go_wp2_with fail
        refine (HKN.out _ HK9.out).mono ?_
        rintro e y1 ⟨rfl, hy1⟩
        have HY1 := Lib.hid (HK9.out.trans' hy1)
        clear hy1
        go_wp2_with fail
        go_ret
        exact ⟨rfl, HY1.out⟩
      · have g2 : ((no2 : Int) != 0) = true := by simpa using h2
        have g4 : ¬ (no2 : Int) = 0 := by omega
        go_wp2_with fail
        refine (HKN.out _ HK8.out).mono ?_
        rintro e y1 ⟨rfl, hy1⟩
        have HY1 := Lib.hid (HK8.out.trans' hy1)
        clear hy1
        go_wp2_with fail
        go_ret
        exact ⟨rfl, HY1.out⟩
    · have g1 : ((no1 : Int) != 0) = true := by simpa using h1
      have g3 : ¬ (no1 : Int) = 0 := by omega
      by_cases h2 : no2 = 0
      · have hq : (E2 == ents l) = true := by rw [HB2.out h2]; simp
        subst h2
        have HSS := Lib.hid (HSB.out _ (Keeps.refl _ _))
        rw [hq] at HSS
        clear hq
        go_wp2_with fail
        refine HSS.out.mono ?_
        rintro e x2 ⟨rfl, hk9⟩
        have HK9 := Lib.hid (HK6.out.trans' hk9)
        clear hk9
        go_wp2_with fail
        refine (HKN.out _ HK9.out).mono ?_
        rintro e y1 ⟨rfl, hy1⟩
        have HY1 := Lib.hid (HK9.out.trans' hy1)
        clear hy1
        go_wp2_with fail
        go_ret
        exact ⟨rfl, HY1.out⟩
      · have g2 : ((no2 : Int) != 0) = true := by simpa using h2
        have g4 : ¬ (no2 : Int) = 0 := by omega
        go_wp2_with fail
        refine (HKN.out _ HK6.out).mono ?_
        rintro e y1 ⟨rfl, hy1⟩
        have HY1 := Lib.hid (HK6.out.trans' hy1)
        clear hy1
        go_wp2_with fail
        go_ret
        exact ⟨rfl, HY1.out⟩
end Go.Proofs.YtfjlcfbomlfpfaaDoor
/- entry: what the sizes of what comes in say of a slice's length. -/
namespace Go.Proofs.YtfjlcfbomlfpfaaDoor
open Go.RowKit Go.ChangeShapes Go.WideShapes Go.Deep
set_option linter.unusedVariables false
set_option maxRecDepth 100000

theorem weight_slice {H : Type} {enc : TypeId × Value → H} {W : World} {base B : Nat} {sp : Nat → Bool} {hd : Bool} {t e : TypeId} {A : Option Addr} {n c : Nat} {d : DataW H} {p : List MemPlace} {xs : List Nat} (ht : Tryd.prog.underlying t = some (.slice e)) (hb : Tryd.prog.bytesOf e = B) (h : DataW.Trod enc Tryd.prog W base sp hd t (.slice A n c) d p)
    (hw : (d.weights Tryd.prog t ++ xs).all (· ≤ reachBytes) = true) : n * B ≤ reachBytes := by
  obtain ⟨fuel, hf⟩ := h
  have hf' : DataW.trod enc Tryd.prog W base sp hd fuel t [.slice A n c] = some (d, p) := hf
  rcases open_slice ht hf' with ⟨hcs, hx⟩ | ⟨a, len, cap, m, k, D, Pl, hcs, _, hl, hm, hmm, hx, _⟩
  · injection hcs with hcs _
    injection hcs with _ hn _
    subst hn
    simp
  · injection hcs with hcs _
    injection hcs with _ hn _
    injection hx with hx _
    subst hn
    subst hx
    rw [List.all_append, Bool.and_eq_true] at hw
    have h1 := hw.1
    simp only [DataW.weights, ht, List.all_cons, Bool.and_eq_true, decide_eq_true_eq, List.length_map, List.length_range, hb] at h1
    have h2 := h1.1
    have h3 : n * B ≤ (n + (m - n)) * B := Nat.mul_le_mul_right _ (by omega)
    omega
theorem bytesAttr7 : Tryd.prog.bytesOf 27 = 40 := by kernel_rfl
end Go.Proofs.YtfjlcfbomlfpfaaDoor
