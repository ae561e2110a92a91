/-
  FOR THE ROWS: an event that came in.
-/
import Derived.Test.YtbghjcfepjbppaaOpen
import Derived.Test.YtbghjcfepjbppaaEvm
namespace Go.Proofs.Ytbghjcfepjbppaa
open Go.Joins Go.ChangeShapes Go.WideShapes Go.RowKit Go.Deep
theorem weightsAll_mem {H : Type} {P : Program} {e : TypeId} : ∀ {l : List (DataW H)} {d : DataW H} {n : Nat}, d ∈ l → n ∈ d.weights P e → n ∈ DataW.weightsAll P e l
  | x :: r, d, n, hd, hn => by
    simp only [DataW.weightsAll, List.mem_append]
    rcases List.mem_cons.1 hd with rfl | hd
    · exact .inl hn
    · exact .inr (weightsAll_mem hd hn)
theorem one24 : oneCellFields Try.prog #[{ name := "Session", type := 3, offset := 0, embedded := false, tag := "", pkgPath := "", byteOffset := 0 }, { name := "Seq", type := 3, offset := 1, embedded := false, tag := "", pkgPath := "", byteOffset := 8 }, { name := "Stamp", type := 3, offset := 2, embedded := false, tag := "", pkgPath := "", byteOffset := 16 }, { name := "Kind", type := 9, offset := 3, embedded := false, tag := "", pkgPath := "", byteOffset := 24 }, { name := "Fields", type := 29, offset := 4, embedded := false, tag := "", pkgPath := "", byteOffset := 40 }] = true := by kernel_rfl
theorem ce24 : Try.prog.cellsOf 31 = 5 := by kernel_rfl
theorem ce65 : Try.prog.cellsOf 105 = 5 := by kernel_rfl
theorem ce9 : Try.prog.cellsOf 9 = 1 := by kernel_rfl
theorem ce3 : Try.prog.cellsOf 3 = 1 := by kernel_rfl
theorem ce45 : Try.prog.cellsOf 101 = 1 := by kernel_rfl
theorem open_agg5 {H : Type} {enc : TypeId × Value → H} {P : Program} {w : World} {base : Nat} {spare : Nat → Bool} {held : Bool} {r : Reach} {b0 : Nat} {t : TypeId} {f0 f1 f2 f3 f4 : Field} {v : Value} {d : DataW H} {p : List MemPlace} (hs : P.underlying t = some (.struct #[f0, f1, f2, f3, f4])) (hone : oneCellFields P #[f0, f1, f2, f3, f4] = true) (hC : P.cellsOf t = 5)
    (hv : Value.okWide P w r b0 t v) (h : DataW.Trod enc P w base spare held t v d p) :
    ∃ (v0 v1 v2 v3 v4 : Value) (y0 y1 y2 y3 y4 : DataW H × List MemPlace) (n : Nat), v = .agg #[v0, v1, v2, v3, v4] ∧ d = .agg [y0.1, y1.1, y2.1, y3.1, y4.1] ∧ p = y0.2 ++ (y1.2 ++ (y2.2 ++ (y3.2 ++ y4.2))) ∧
      DataW.trod enc P w base spare held n f0.type [v0] = some y0 ∧ DataW.trod enc P w base spare held n f1.type [v1] = some y1 ∧ DataW.trod enc P w base spare held n f2.type [v2] = some y2 ∧ DataW.trod enc P w base spare held n f3.type [v3] = some y3 ∧ DataW.trod enc P w base spare held n f4.type [v4] = some y4 := by
  obtain ⟨cs, rfl, hsz⟩ := okWide_struct hs hv
  obtain ⟨l⟩ := cs
  match l, hsz.trans hC with
  | [c0, c1, c2, c3, c4], _ =>
    obtain ⟨fuel, hf⟩ := h
    obtain ⟨xs, n, _, hx, _, hlen, hg⟩ := DataW.trod_struct hs hf
    obtain ⟨o0, k0⟩ := hone_of hone 0 f0 rfl
    obtain ⟨o1, k1⟩ := hone_of hone 1 f1 rfl
    obtain ⟨o2, k2⟩ := hone_of hone 2 f2 rfl
    obtain ⟨o3, k3⟩ := hone_of hone 3 f3 rfl
    obtain ⟨o4, k4⟩ := hone_of hone 4 f4 rfl
    match xs, hlen with
    | [y0, y1, y2, y3, y4], _ =>
      simp only [Prod.mk.injEq] at hx
      exact ⟨c0, c1, c2, c3, c4, y0, y1, y2, y3, y4, n, rfl, by simpa using hx.1, by simpa using hx.2, by simpa [Value.cells, o0, k0] using hg 0 f0 rfl, by simpa [Value.cells, o1, k1] using hg 1 f1 rfl, by simpa [Value.cells, o2, k2] using hg 2 f2 rfl, by simpa [Value.cells, o3, k3] using hg 3 f3 rfl, by simpa [Value.cells, o4, k4] using hg 4 f4 rfl⟩
theorem add_at (b o n : Nat) : (⟨b, o, none⟩ : Addr).add n = ⟨b, o + n, none⟩ := by unfold Addr.add; split <;> simp_all
section
variable {H : Type} {enc : TypeId × Value → H} {W : World} {base : Nat}
set_option maxRecDepth 100000 in
theorem open_fld {b0 n : Nat} {sp : Nat → Bool} {hd : Bool} {a : Addr} {cs : List Value} {y : DataW H × List MemPlace} (h1 : W.cells? b0 a 5 = some cs) (h2 : DataW.trod enc Try.prog W b0 sp hd n 105 cs = some y) :
    ∃ x : Fld, x.v.Wf ∧ W.cell? (a.add 0) = some (.string x.nm) ∧ W.cell? (a.add 1) = some (.int .i64 x.v.k) ∧ W.cell? (a.add 2) = some (.int .i64 x.v.n) ∧ W.cell? (a.add 3) = some (.float .f64 x.v.f) ∧ W.cell? (a.add 4) = some (.string x.v.s) ∧ x.v.s.size ∈ y.1.weights Try.prog 105 ∧ x.nm.size ≤ maxLen ∧ x.v.s.size ≤ maxLen := by
  obtain ⟨_, hlen, hcell⟩ := World.cells?_some h1
  obtain ⟨xs, k, hk, hxy, _, hxl, hf⟩ := DataW.trod_struct Try.underlying105 h2
  match xs, hxl, cs, hlen with
  | [y0, y1], _, [v0, v1, v2, v3, v4], _ =>
    have g0 := hf 0 _ rfl
    have g1 := hf 1 _ rfl
    simp [ce9, ce47] at g0 g1
    obtain ⟨s0, e0, _, w0⟩ := DataW.trod_string Try.underlying9 g0
    obtain ⟨zs, k', hk', hzy, _, hzl, hz⟩ := DataW.trod_struct Try.underlying103 g1
    match zs, hzl with
    | [z0, z1, z2, z3], _ =>
      have t0 := hz 0 _ rfl
      have t1 := hz 1 _ rfl
      have t2 := hz 2 _ rfl
      have t3 := hz 3 _ rfl
      simp [ce9, ce3, ce45] at t0 t1 t2 t3
      obtain ⟨k0, q0, _, u0⟩ := DataW.trod_int Try.underlying3 t0
      obtain ⟨k1, q1, _, u1⟩ := DataW.trod_int Try.underlying3 t1
      obtain ⟨k2, q2, _, u2⟩ := trod_float Try.underlying101 t2
      obtain ⟨k3, q3, x3, u3⟩ := DataW.trod_string Try.underlying9 t3
      simp only [List.cons.injEq, and_true] at e0 q0 q1 q2 q3
      subst e0 q0 q1 q2 q3
      refine ⟨⟨s0, k0, k1, k2, k3⟩, ⟨wf_i64 u0, (wf_i64 u1).1, (wf_i64 u1).2, wf_f64 u2⟩, ?_, ?_, ?_, ?_, ?_, ?_, w0, u3⟩
      · simpa using hcell 0 (by omega)
      · simpa using hcell 1 (by omega)
      · simpa using hcell 2 (by omega)
      · simpa using hcell 3 (by omega)
      · simpa using hcell 4 (by omega)
      · rw [hxy]
        simp only [List.map_cons, List.map_nil, DataW.weights, Try.underlying105]
        refine DataW.weights_mem_each (j := 1) (t := 103) (d := y1.1) rfl rfl _ ?_
        rw [hzy]
        simp only [List.map_cons, List.map_nil, DataW.weights, Try.underlying103]
        refine DataW.weights_mem_each (j := 3) (t := 9) (d := z3.1) rfl rfl _ ?_
        rw [x3]
        simp only [DataW.weights, List.mem_singleton]
        rw [Array.length_toList]; rfl
set_option maxRecDepth 100000 in
theorem open_event {v : Value} {d : DataW H} {p : List MemPlace} (hv : Value.okWide Try.prog W .any base 31 v) (h : DataW.Trod enc Try.prog W 0 (fun _ => true) true 31 v d p) :
    ∃ (a b c : Int) (k : ByteArray) (q : Option Addr) (cp : Nat) (L : List Fld), v = evV a b c k (.slice q L.length cp) ∧ Flds W q L ∧ L.length ≤ 9223372036854775807 ∧ (∀ x ∈ L, x.v.Wf ∧ x.nm.size ≤ maxLen ∧ x.v.s.size ≤ maxLen) ∧ k.size ≤ maxLen ∧
      (-9223372036854775808 ≤ a ∧ a ≤ 9223372036854775807) ∧ (-9223372036854775808 ≤ b ∧ b ≤ 9223372036854775807) ∧ (-9223372036854775808 ≤ c ∧ c ≤ 9223372036854775807) ∧ ((∀ n ∈ d.weights Try.prog 31, n ≤ reachBytes) → ∀ x ∈ L, x.v.s.size ≤ reachBytes) := by
  obtain ⟨v0, v1, v2, v3, v4, y0, y1, y2, y3, y4, n, rfl, hd, _, h0, h1, h2, h3, h4⟩ := open_agg5 Try.underlying31 one24 ce24 hv h
  obtain ⟨k0, e0, _, w0⟩ := DataW.trod_int Try.underlying3 h0
  obtain ⟨k1, e1, _, w1⟩ := DataW.trod_int Try.underlying3 h1
  obtain ⟨k2, e2, _, w2⟩ := DataW.trod_int Try.underlying3 h2
  obtain ⟨s3, e3, _, w3⟩ := DataW.trod_string Try.underlying9 h3
  simp only [List.cons.injEq, and_true] at e0 e1 e2 e3
  subst e0 e1 e2 e3
  rcases Go.Deep.open_slice Try.underlying29 h4 with ⟨hcs, hy⟩ | ⟨a, len, cap, m, n', D, Pl, hcs, hb, hl, hm, hmm, hx, hi⟩
  · simp only [List.cons.injEq, and_true] at hcs
    subst hcs
    exact ⟨k0, k1, k2, s3, none, 0, [], rfl, fun i hi => by simp at hi, by simp, fun x hx => by simp at hx, w3, wf_i64 w0, wf_i64 w1, wf_i64 w2, fun _ x hx => by simp at hx⟩
  · simp only [List.cons.injEq, and_true] at hcs
    subst hcs
    have hlm : len ≤ m := by rw [hmm]; split <;> omega
    have hall : ∀ i, i < len → ∃ x : Fld, x.v.Wf ∧ W.cell? ((a.add (i * 5)).add 0) = some (.string x.nm) ∧ W.cell? ((a.add (i * 5)).add 1) = some (.int .i64 x.v.k) ∧ W.cell? ((a.add (i * 5)).add 2) = some (.int .i64 x.v.n) ∧ W.cell? ((a.add (i * 5)).add 3) = some (.float .f64 x.v.f) ∧ W.cell? ((a.add (i * 5)).add 4) = some (.string x.v.s) ∧ x.v.s.size ∈ (D i).weights Try.prog 105 ∧ x.nm.size ≤ maxLen ∧ x.v.s.size ≤ maxLen := fun i hi' => by
      obtain ⟨cs', hc, ht⟩ := hi i (by omega)
      rw [ce65] at hc
      exact open_fld hc ht
    have hsp : 0 < len → a.spot = none := fun h0 => by
      obtain ⟨x, _, c0, _⟩ := hall 0 h0
      obtain ⟨b, o, s⟩ := a
      cases s with
      | none => rfl
      | some q =>
        exfalso
        have e0 : ((⟨b, o, some q⟩ : Addr).add (0 * 5)).add 0 = ⟨b, o, some q⟩ := by simp [Addr.add]
        rw [e0] at c0
        have h01 : W.cell? ⟨b, o, some q⟩ = none := by
          unfold World.cell?
          split <;> simp
        rw [h01] at c0; simp at c0
    obtain ⟨f, hf⟩ : ∃ f : Nat → Fld, ∀ i, i < len → (f i).v.Wf ∧ W.cell? ((a.add (i * 5)).add 0) = some (.string (f i).nm) ∧ W.cell? ((a.add (i * 5)).add 1) = some (.int .i64 (f i).v.k) ∧ W.cell? ((a.add (i * 5)).add 2) = some (.int .i64 (f i).v.n) ∧ W.cell? ((a.add (i * 5)).add 3) = some (.float .f64 (f i).v.f) ∧ W.cell? ((a.add (i * 5)).add 4) = some (.string (f i).v.s) ∧ (f i).v.s.size ∈ (D i).weights Try.prog 105 ∧ (f i).nm.size ≤ maxLen ∧ (f i).v.s.size ≤ maxLen :=
      ⟨fun i => if h : i < len then Classical.choose (hall i h) else ⟨⟨#[]⟩, 0, 0, 0, ⟨#[]⟩⟩, fun i h => by
        simp only [dif_pos h]
        exact Classical.choose_spec (hall i h)⟩
    have e1 : ((List.range len).map f).length = len := by rw [List.length_map, List.length_range]
    refine ⟨k0, k1, k2, s3, some a, cap, (List.range len).map f, by rw [e1]; rfl, ?_, by rw [e1]; unfold maxLen at hm; omega, fun x hx => ?_, w3, wf_i64 w0, wf_i64 w1, wf_i64 w2, fun hw x hx' => ?_⟩
    · intro i hi'
      have hil : i < len := by rw [e1] at hi'; exact hi'
      have hs := (hf i hil).2
      have eg : ((List.range len).map f)[i] = f i := by rw [List.getElem_map, List.getElem_range]
      rw [eg]
      have hsn := hsp (by omega)
      clear hf hall hsp hi hmm
      obtain ⟨b, o, s⟩ := a
      simp only at hsn
      subst hsn
      simp only [add_at, Nat.add_zero] at hs
      exact ⟨b, o, rfl, World.block_lt_of_cell? _ _ hs.1, hs.1, hs.2.1, hs.2.2.1, hs.2.2.2.1, hs.2.2.2.2.1⟩
    · obtain ⟨i, hi', rfl⟩ := List.mem_map.1 hx
      have := hf i (List.mem_range.1 hi')
      exact ⟨this.1, this.2.2.2.2.2.2.2.1, this.2.2.2.2.2.2.2.2⟩
    · obtain ⟨i, hi', rfl⟩ := List.mem_map.1 hx'
      have hil := List.mem_range.1 hi'
      refine hw _ ?_
      rw [hd]
      simp only [DataW.weights, Try.underlying31]
      refine DataW.weights_mem_each (j := 4) (t := 29) (d := y4.1) rfl rfl _ ?_
      rw [hx]
      simp only [DataW.weights, Try.underlying29]
      refine List.mem_cons_of_mem _ (List.mem_append.2 (.inl ?_))
      exact weightsAll_mem (List.mem_map.2 ⟨i, hi', rfl⟩) (hf i hil).2.2.2.2.2.2.1
end
end Go.Proofs.Ytbghjcfepjbppaa
