/-
  WHAT THE ROWS REST ON, part 14: Opa Opw.
-/
import Derived.ChangeSlices
import Derived.SizedLaws
import Derived.Test.YtggjpallbapcmaaPart13
/-
  FOR THE ROWS: acts that came in.
-/
namespace Go.Proofs.Ytggjpallbapcmaa
open Go.Joins Go.ChangeShapes Go.WideShapes Go.RowKit Go.Deep
theorem ce55 : Try.prog.cellsOf 55 = 1 := by kernel_rfl
theorem ce70 : Try.prog.cellsOf 70 = 1 := by kernel_rfl
theorem ce37 : Try.prog.cellsOf 37 = 11 := by kernel_rfl
theorem ce31' : Try.prog.cellsOf 31 = 5 := by kernel_rfl
theorem ce32 : Try.prog.cellsOf 32 = 1 := by kernel_rfl
theorem ce29 : Try.prog.cellsOf 29 = 1 := by kernel_rfl
theorem ce35 : Try.prog.cellsOf 35 = 1 := by kernel_rfl
theorem by3 : Try.prog.bytesOf 3 = 8 := by kernel_rfl
theorem spot_none {W : World} {a : Addr} {v : Value} (h : W.cell? (a.add 0) = some v) : a.spot = none := by
  obtain ⟨b, o, s⟩ := a
  cases s with
  | none => rfl
  | some q =>
    exfalso
    have e0 : (⟨b, o, some q⟩ : Addr).add 0 = ⟨b, o, some q⟩ := by simp [Addr.add]
    rw [e0] at h
    have h01 : W.cell? ⟨b, o, some q⟩ = none := by
      unfold World.cell?
      split <;> simp
    rw [h01] at h; simp at h
section
variable {H : Type} {enc : TypeId × Value → H} {W : World}
theorem open_nums {b0 n : Nat} {sp : Nat → Bool} {hd : Bool} {cs : List Value} {y : DataW H × List MemPlace} (h : DataW.trod enc Try.prog W b0 sp hd n 55 cs = some y) :
    ∃ (q : Option Addr) (c : Nat) (P : List Int), cs = [.slice q P.length c] ∧ Bk.Nums W q P ∧ ((∀ n ∈ y.1.weights Try.prog 55, n ≤ reachBytes) → P.length ≤ 17592186043904) := by
  rcases Go.Deep.open_slice1 Try.underlying55 ce3 h with ⟨rfl, _⟩ | ⟨a, len, cap, m, n', V, D, Pl, rfl, _, hl, hm, hmm, hx, hi⟩
  · exact ⟨none, 0, [], rfl, fun i hi => by simp at hi, by simp⟩
  · have hlm : len ≤ m := by rw [hmm]; split <;> omega
    have hall : ∀ i : Fin len, ∃ x : Int, W.cell? (a.add i.1) = some (.int .i64 x) := fun i => by
      obtain ⟨hc, ht⟩ := hi i.1 (by have := i.2; omega)
      obtain ⟨x, e, _, _⟩ := DataW.trod_int Try.underlying3 ht
      simp only [List.cons.injEq, and_true] at e
      rw [e] at hc
      exact ⟨x, hc⟩
    obtain ⟨f, hf⟩ := Classical.axiomOfChoice hall
    refine ⟨some a, cap, List.ofFn f, by rw [List.length_ofFn], ?_, fun hw => ?_⟩
    · intro i hi'
      have hil : i < len := by simpa using hi'
      have h0 := spot_none (hf ⟨0, by omega⟩)
      have h1 := hf ⟨i, hil⟩
      obtain ⟨b, o, s⟩ := a
      simp only at h0
      subst h0
      simp only [add_at] at h1
      refine ⟨b, o, rfl, World.block_lt_of_cell? _ _ h1, ?_⟩
      rw [h1, List.getElem_ofFn]
    · have hh := hw ((((List.range len).map D).length + ((List.range (m - len)).map fun j => D (len + j)).length) * Try.prog.bytesOf 3) (by
        rw [hx]
        simp only [DataW.weights, Try.underlying55]
        exact List.mem_cons_self)
      rw [by3, List.length_map, List.length_map, List.length_range, List.length_range] at hh
      rw [List.length_ofFn]
      unfold reachBytes at hh
      omega
theorem open_matches {b0 n : Nat} {sp : Nat → Bool} {hd : Bool} {cs : List Value} {y : DataW H × List MemPlace} (h : DataW.trod enc Try.prog W b0 sp hd n 35 cs = some y) :
    ∃ (q : Option Addr) (c : Nat) (LL : List (List Int)), cs = [.slice q LL.length c] ∧ Bk.Rws W q LL ∧ ((∀ n ∈ y.1.weights Try.prog 35, n ≤ reachBytes) → Small LL) ∧ LL.length ≤ 9223372036854775807 := by
  rcases Go.Deep.open_slice1 Try.underlying35 ce70 h with ⟨rfl, _⟩ | ⟨a, len, cap, m, n', V, D, Pl, rfl, _, hl, hm, hmm, hx, hi⟩
  · exact ⟨none, 0, [], rfl, fun i hi => by simp at hi, fun _ x hx => by simp at hx, by simp⟩
  · have hlm : len ≤ m := by rw [hmm]; split <;> omega
    have hall : ∀ i : Fin len, ∃ x : List Int × Option Addr × Nat, W.cell? (a.add i.1) = some (.slice x.2.1 x.1.length x.2.2) ∧ Bk.Nums W x.2.1 x.1 ∧ ((∀ n ∈ (D i.1).weights Try.prog 70, n ≤ reachBytes) → x.1.length ≤ 17592186043904) := fun i => by
      obtain ⟨hc, ht⟩ := hi i.1 (by have := i.2; omega)
      obtain ⟨xs, k, hk, hxy, _, hxl, hff⟩ := DataW.trod_struct Try.underlying70 ht
      match xs, hxl with
      | [y0], _ =>
        have g0 := hff 0 _ rfl
        simp [ce55] at g0
        obtain ⟨q, c, P, q0, hP, hw⟩ := open_nums g0
        simp only [List.cons.injEq, and_true] at q0
        rw [q0] at hc
        refine ⟨(P, q, c), hc, hP, fun hwt => hw (fun n hn => hwt n ?_)⟩
        have hD : D i.1 = .agg [y0.1] := by
          have := congrArg Prod.fst hxy
          simpa using this
        rw [hD]
        simp only [DataW.weights, Try.underlying70]
        exact DataW.weights_mem_each (j := 0) (t := 55) (d := y0.1) rfl rfl _ hn
    obtain ⟨f, hf⟩ := Classical.axiomOfChoice hall
    refine ⟨some a, cap, List.ofFn fun i => (f i).1, by rw [List.length_ofFn], ?_, fun hw x hx' => ?_, by rw [List.length_ofFn]; unfold maxLen at hm; omega⟩
    · intro i hi'
      have hil : i < len := by simpa using hi'
      have h0 := spot_none (hf ⟨0, by omega⟩).1
      have h1 := hf ⟨i, hil⟩
      obtain ⟨b, o, s⟩ := a
      simp only at h0
      subst h0
      simp only [add_at] at h1
      refine ⟨b, o, (f ⟨i, hil⟩).2.1, (f ⟨i, hil⟩).2.2, rfl, World.block_lt_of_cell? _ _ h1.1, ?_⟩
      rw [List.getElem_ofFn]
      exact ⟨h1.1, h1.2.1⟩
    · obtain ⟨i, rfl⟩ := List.mem_ofFn.1 hx'
      refine (hf i).2.2 (fun n hn => hw n ?_)
      rw [hx]
      simp only [DataW.weights, Try.underlying35]
      refine List.mem_cons_of_mem _ (List.mem_append.2 (.inl ?_))
      exact weightsAll_mem (List.mem_map.2 ⟨i.1, List.mem_range.2 i.2, rfl⟩) hn
set_option maxRecDepth 100000 in
theorem open_flds {b0 n : Nat} {sp : Nat → Bool} {hd : Bool} {v4 : Value} {y4 : DataW H × List MemPlace} (h4 : DataW.trod enc Try.prog W b0 sp hd n 29 [v4] = some y4) :
    ∃ (q : Option Addr) (cp : Nat) (L : List Fld), v4 = .slice q L.length cp ∧ Flds W q L ∧ L.length ≤ 9223372036854775807 ∧ (∀ x ∈ L, x.v.Wf ∧ x.nm.size ≤ maxLen ∧ x.v.s.size ≤ maxLen) ∧ ((∀ n ∈ y4.1.weights Try.prog 29, n ≤ reachBytes) → ∀ x ∈ L, x.v.s.size ≤ reachBytes) := by
  rcases Go.Deep.open_slice Try.underlying29 h4 with ⟨hcs, hy⟩ | ⟨a, len, cap, m, n', D, Pl, hcs, hb, hl, hm, hmm, hx, hi⟩
  · simp only [List.cons.injEq, and_true] at hcs
    subst hcs
    exact ⟨none, 0, [], rfl, fun i hi => by simp at hi, by simp, fun x hx => by simp at hx, fun _ x hx => by simp at hx⟩
  · simp only [List.cons.injEq, and_true] at hcs
    subst hcs
    have hlm : len ≤ m := by rw [hmm]; split <;> omega
    have hall : ∀ i, i < len → ∃ x : Fld, x.v.Wf ∧ W.cell? ((a.add (i * 5)).add 0) = some (.string x.nm) ∧ W.cell? ((a.add (i * 5)).add 1) = some (.int .i64 x.v.k) ∧ W.cell? ((a.add (i * 5)).add 2) = some (.int .i64 x.v.n) ∧ W.cell? ((a.add (i * 5)).add 3) = some (.float .f64 x.v.f) ∧ W.cell? ((a.add (i * 5)).add 4) = some (.string x.v.s) ∧ x.v.s.size ∈ (D i).weights Try.prog 105 ∧ x.nm.size ≤ maxLen ∧ x.v.s.size ≤ maxLen := fun i hi' => by
      obtain ⟨cs', hc, ht⟩ := hi i (by omega)
      rw [ce65] at hc
      exact open_fld hc ht
    have hsp : 0 < len → a.spot = none := fun h0 => by
      obtain ⟨x, _, c0, _⟩ := hall 0 h0
      obtain ⟨b, o, s⟩ := a
      cases s with
      | none => rfl
      | some q =>
        exfalso
        have e0 : ((⟨b, o, some q⟩ : Addr).add (0 * 5)).add 0 = ⟨b, o, some q⟩ := by simp [Addr.add]
        rw [e0] at c0
        have h01 : W.cell? ⟨b, o, some q⟩ = none := by
          unfold World.cell?
          split <;> simp
        rw [h01] at c0; simp at c0
    obtain ⟨f, hf⟩ : ∃ f : Nat → Fld, ∀ i, i < len → (f i).v.Wf ∧ W.cell? ((a.add (i * 5)).add 0) = some (.string (f i).nm) ∧ W.cell? ((a.add (i * 5)).add 1) = some (.int .i64 (f i).v.k) ∧ W.cell? ((a.add (i * 5)).add 2) = some (.int .i64 (f i).v.n) ∧ W.cell? ((a.add (i * 5)).add 3) = some (.float .f64 (f i).v.f) ∧ W.cell? ((a.add (i * 5)).add 4) = some (.string (f i).v.s) ∧ (f i).v.s.size ∈ (D i).weights Try.prog 105 ∧ (f i).nm.size ≤ maxLen ∧ (f i).v.s.size ≤ maxLen :=
      ⟨fun i => if h : i < len then Classical.choose (hall i h) else ⟨⟨#[]⟩, 0, 0, 0, ⟨#[]⟩⟩, fun i h => by
        simp only [dif_pos h]
        exact Classical.choose_spec (hall i h)⟩
    have e1 : ((List.range len).map f).length = len := by rw [List.length_map, List.length_range]
    refine ⟨some a, cap, (List.range len).map f, by rw [e1], ?_, by rw [e1]; unfold maxLen at hm; omega, fun x hx => ?_, fun hw x hx' => ?_⟩
    · intro i hi'
      have hil : i < len := by rw [e1] at hi'; exact hi'
      have hs := (hf i hil).2
      have eg : ((List.range len).map f)[i] = f i := by rw [List.getElem_map, List.getElem_range]
      rw [eg]
      have hsn := hsp (by omega)
      clear hf hall hsp hi hmm
      obtain ⟨b, o, s⟩ := a
      simp only at hsn
      subst hsn
      simp only [add_at, Nat.add_zero] at hs
      exact ⟨b, o, rfl, World.block_lt_of_cell? _ _ hs.1, hs.1, hs.2.1, hs.2.2.1, hs.2.2.2.1, hs.2.2.2.2.1⟩
    · obtain ⟨i, hi', rfl⟩ := List.mem_map.1 hx
      have := hf i (List.mem_range.1 hi')
      exact ⟨this.1, this.2.2.2.2.2.2.2.1, this.2.2.2.2.2.2.2.2⟩
    · obtain ⟨i, hi', rfl⟩ := List.mem_map.1 hx'
      have hil := List.mem_range.1 hi'
      refine hw _ ?_
      rw [hx]
      simp only [DataW.weights, Try.underlying29]
      refine List.mem_cons_of_mem _ (List.mem_append.2 (.inl ?_))
      exact weightsAll_mem (List.mem_map.2 ⟨i, hi', rfl⟩) (hf i hil).2.2.2.2.2.2.1
/-- an act -/
structure AcT where
  k : Int
  a : Int
  b : Int
  c : Int
  ek : ByteArray
  F : List Fld
  err : Int
  rn : Int
  lead : Int
  n : Int
  LL : List (List Int)
/-- an act's numbers are such -/
def AcT.ok (x : AcT) : Prop := (-9223372036854775808 ≤ x.n ∧ x.n ≤ 9223372036854775807) ∧ (-9223372036854775808 ≤ x.rn ∧ x.rn ≤ 9223372036854775807) ∧ x.LL.length ≤ 9223372036854775807 ∧ x.F.length ≤ 9223372036854775807 ∧ x.ek.size ≤ maxLen ∧ (∀ y ∈ x.F, y.v.Wf ∧ y.nm.size ≤ maxLen ∧ y.v.s.size ≤ maxLen)
/-- an act's lists are not too long -/
def AcT.sm (x : AcT) : Prop := Small x.LL ∧ ∀ y ∈ x.F, y.v.s.size ≤ reachBytes
/-- an act that came in, at its place -/
def AcAt (W : World) (a : Addr) (x : AcT) (fq : Option Addr) (fc : Nat) (lq : Option Addr) (lc : Nat) : Prop :=
  (W.cell? (a.add 0) = some (.int .i64 x.k) ∧ W.cell? (a.add 1) = some (.int .i64 x.a) ∧ W.cell? (a.add 2) = some (.int .i64 x.b) ∧ W.cell? (a.add 3) = some (.int .i64 x.c) ∧ W.cell? (a.add 4) = some (.string x.ek) ∧ W.cell? (a.add 5) = some (.slice fq x.F.length fc) ∧
    W.cell? (a.add 6) = some (.int .i64 x.err) ∧ W.cell? (a.add 7) = some (.int .i64 x.rn) ∧ W.cell? (a.add 8) = some (.int .i64 x.lead) ∧ W.cell? (a.add 9) = some (.int .i64 x.n) ∧ W.cell? (a.add 10) = some (.slice lq x.LL.length lc)) ∧
    Flds W fq x.F ∧ Bk.Rws W lq x.LL ∧ x.ok
set_option maxRecDepth 100000 in
theorem open_act {b0 n : Nat} {sp : Nat → Bool} {hd : Bool} {a : Addr} {cs : List Value} {y : DataW H × List MemPlace} (h1 : W.cells? b0 a 11 = some cs) (h2 : DataW.trod enc Try.prog W b0 sp hd n 37 cs = some y) :
    ∃ x : AcT × (Option Addr × Nat) × (Option Addr × Nat), AcAt W a x.1 x.2.1.1 x.2.1.2 x.2.2.1 x.2.2.2 ∧ ((∀ n ∈ y.1.weights Try.prog 37, n ≤ reachBytes) → x.1.sm) := by
  obtain ⟨_, hlen, hcell⟩ := World.cells?_some h1
  obtain ⟨xs, k, hk, hxy, _, hxl, hf⟩ := DataW.trod_struct Try.underlying37 h2
  match xs, hxl, cs, hlen with
  | [y0, y1, y2, y3, y4, y5], _, [v0, v1, v2, v3, v4, v5, v6, v7, v8, v9, v10], _ =>
    have g0 := hf 0 _ rfl
    have g1 := hf 1 _ rfl
    have g2 := hf 2 _ rfl
    have g3 := hf 3 _ rfl
    have g4 := hf 4 _ rfl
    have g5 := hf 5 _ rfl
    simp [ce3, ce31', ce34, ce35] at g0 g1 g2 g3 g4 g5
    obtain ⟨k0, q0, _, u0⟩ := DataW.trod_int Try.underlying3 g0
    obtain ⟨k3, q3, _, u3⟩ := DataW.trod_int Try.underlying3 g3
    obtain ⟨k4, q4, _, u4⟩ := DataW.trod_int Try.underlying3 g4
    obtain ⟨lq, lc, LL, q5, hL, hwL, hlL⟩ := open_matches g5
    obtain ⟨zs, k', hk', hzy, _, hzl, hz⟩ := DataW.trod_struct Try.underlying31 g1
    match zs, hzl with
    | [z0, z1, z2, z3, z4], _ =>
      have t0 := hz 0 _ rfl
      have t1 := hz 1 _ rfl
      have t2 := hz 2 _ rfl
      have t3 := hz 3 _ rfl
      have t4 := hz 4 _ rfl
      simp [ce3, ce9, ce29] at t0 t1 t2 t3 t4
      obtain ⟨ea, p0, _, _⟩ := DataW.trod_int Try.underlying3 t0
      obtain ⟨eb, p1, _, _⟩ := DataW.trod_int Try.underlying3 t1
      obtain ⟨ec, p2, _, _⟩ := DataW.trod_int Try.underlying3 t2
      obtain ⟨ek, p3, _, uk⟩ := DataW.trod_string Try.underlying9 t3
      obtain ⟨fq, fc, F, p4, hF, hlF, hwF, hsF⟩ := open_flds t4
      obtain ⟨rs, k'', hk'', hry, _, hrl, hr⟩ := DataW.trod_struct Try.underlying34 g2
      match rs, hrl with
      | [r0, r1], _ =>
        have s0 := hr 0 _ rfl
        have s1 := hr 1 _ rfl
        simp [ce3, ce32] at s0 s1
        obtain ⟨er, m0, _, _⟩ := DataW.trod_int Try.underlying32 s0
        obtain ⟨rn, m1, _, um⟩ := DataW.trod_int Try.underlying3 s1
        simp only [List.cons.injEq, and_true] at q0 q3 q4 q5 p0 p1 p2 p3 m0 m1
        subst q0 q3 q4 q5 p0 p1 p2 p3 p4 m0 m1
        refine ⟨(⟨k0, ea, eb, ec, ek, F, er, rn, k3, k4, LL⟩, (fq, fc), (lq, lc)), ⟨⟨?_, ?_, ?_, ?_, ?_, ?_, ?_, ?_, ?_, ?_, ?_⟩, hF, hL, wf_i64 u4, wf_i64 um, hlL, hlF, uk, hwF⟩, fun hw => ⟨hwL (fun n hn => hw n ?_), hsF (fun n hn => hw n ?_)⟩⟩
        · simpa using hcell 0 (by omega)
        · simpa using hcell 1 (by omega)
        · simpa using hcell 2 (by omega)
        · simpa using hcell 3 (by omega)
        · simpa using hcell 4 (by omega)
        · simpa using hcell 5 (by omega)
        · simpa using hcell 6 (by omega)
        · simpa using hcell 7 (by omega)
        · simpa using hcell 8 (by omega)
        · simpa using hcell 9 (by omega)
        · simpa using hcell 10 (by omega)
        · rw [hxy]
          simp only [List.map_cons, List.map_nil, DataW.weights, Try.underlying37]
          exact DataW.weights_mem_each (j := 5) (t := 35) (d := y5.1) rfl rfl _ hn
        · rw [hxy]
          simp only [List.map_cons, List.map_nil, DataW.weights, Try.underlying37]
          refine DataW.weights_mem_each (j := 1) (t := 31) (d := y1.1) rfl rfl _ ?_
          rw [hzy]
          simp only [List.map_cons, List.map_nil, DataW.weights, Try.underlying31]
          exact DataW.weights_mem_each (j := 4) (t := 29) (d := z4.1) rfl rfl _ hn
/-- acts in memory -/
def AcsT (w : World) (a : Option Addr) (R : List AcT) : Prop := ∀ p (h : p < R.length), ∃ g o fq fc lq lc, a = some ⟨g, o, none⟩ ∧ g < w.heap.size ∧ AcAt w ⟨g, o + p * 11, none⟩ R[p] fq fc lq lc
set_option maxRecDepth 100000 in
theorem open_acts {base : Nat} {v : Value} {d : DataW H} {p : List MemPlace} (hv : Value.okWide Try.prog W .any base 22 v) (h : DataW.Trod enc Try.prog W 0 (fun _ => true) true 22 v d p) :
    ∃ (a : Option Addr) (L : List AcT) (c : Nat), v = .slice a L.length c ∧ AcsT W a L ∧ L.length ≤ 9223372036854775807 ∧ ((∀ n ∈ d.weights Try.prog 22, n ≤ reachBytes) → ∀ x ∈ L, x.sm) := by
  obtain ⟨a0, len, cap, rfl⟩ := okWide_slice Try.underlying22 hv
  obtain ⟨fuel, hf⟩ := h
  rcases Go.Deep.open_slice Try.underlying22 hf with ⟨hcs, _⟩ | ⟨a, len', cap', m, n, D, Pl, hcs, hb, hl, hm, hmm, hx, hi⟩
  · simp [Value.cells] at hcs
    obtain ⟨rfl, rfl, rfl⟩ := hcs
    exact ⟨none, [], 0, rfl, fun i hi => absurd hi (Nat.not_lt_zero i), by simp, fun _ x hx => by simp at hx⟩
  · simp [Value.cells] at hcs
    obtain ⟨rfl, rfl, rfl⟩ := hcs
    have hlm : len ≤ m := by rw [hmm]; split <;> omega
    have hall : ∀ i : Fin len, ∃ x : AcT × (Option Addr × Nat) × (Option Addr × Nat), AcAt W (a.add (i.1 * 11)) x.1 x.2.1.1 x.2.1.2 x.2.2.1 x.2.2.2 ∧ ((∀ n ∈ (D i.1).weights Try.prog 37, n ≤ reachBytes) → x.1.sm) := fun i => by
      obtain ⟨cs', hc, ht⟩ := hi i.1 (by have := i.2; omega)
      rw [ce37] at hc
      exact open_act hc ht
    obtain ⟨f, hf⟩ := Classical.axiomOfChoice hall
    refine ⟨some a, List.ofFn fun i => (f i).1, cap, by rw [List.length_ofFn], ?_, by rw [List.length_ofFn]; unfold maxLen at hm; omega, fun hw x hx' => ?_⟩
    · intro i hi'
      have hil : i < len := by simpa using hi'
      have hz := (hf ⟨0, by omega⟩).1.1.1
      have h1 := (hf ⟨i, hil⟩).1
      clear hf hall hi hmm
      have h0 : a.spot = none := by
        obtain ⟨b, o, s⟩ := a
        simp only [Nat.zero_mul] at hz
        have e : (⟨b, o, s⟩ : Addr).add 0 = ⟨b, o, s⟩ := by cases s <;> simp [Addr.add]
        rw [e] at hz
        exact spot_none hz
      obtain ⟨b, o, s⟩ := a
      simp only at h0
      subst h0
      simp only [add_at] at h1
      refine ⟨b, o, (f ⟨i, hil⟩).2.1.1, (f ⟨i, hil⟩).2.1.2, (f ⟨i, hil⟩).2.2.1, (f ⟨i, hil⟩).2.2.2, rfl, World.block_lt_of_cell? _ _ h1.1.1, ?_⟩
      rw [List.getElem_ofFn]
      exact h1
    · obtain ⟨i, rfl⟩ := List.mem_ofFn.1 hx'
      refine (hf i).2 (fun n hn => hw n ?_)
      have hd := congrArg Prod.fst hx
      simp only at hd
      rw [hd]
      simp only [DataW.weights, Try.underlying22]
      refine List.mem_cons_of_mem _ (List.mem_append.2 (.inl ?_))
      exact weightsAll_mem (List.mem_map.2 ⟨i.1, List.mem_range.2 i.2, rfl⟩) hn
end
end Go.Proofs.Ytggjpallbapcmaa
/-
  FOR THE ROWS: who reads, that came in.
-/
namespace Go.Proofs.Ytggjpallbapcmaa
open Go.Joins Go.ChangeShapes Go.WideShapes Go.RowKit Go.Deep
theorem one51 : oneCellFields Try.prog #[{ name := "Nodes", type := 3, offset := 0, embedded := false, tag := "", pkgPath := "", byteOffset := 0 }, { name := "Name", type := 9, offset := 1, embedded := false, tag := "", pkgPath := "", byteOffset := 8 }] = true := by kernel_rfl
theorem ce51 : Try.prog.cellsOf 51 = 2 := by kernel_rfl
set_option maxRecDepth 100000 in
theorem open_who {H : Type} {enc : TypeId × Value → H} {W : World} {base : Nat} {v : Value} {d : DataW H} {p : List MemPlace} (hv : Value.okWide Try.prog W .any base 51 v) (h : DataW.Trod enc Try.prog W 0 (fun _ => true) true 51 v d p) :
    ∃ (a : Int) (s : ByteArray), v = .agg #[.int .i64 a, .string s] ∧ (-9223372036854775808 ≤ a ∧ a ≤ 9223372036854775807) ∧ s.size ≤ maxLen := by
  obtain ⟨v0, v1, y0, y1, n, rfl, _, _, h0, h1⟩ := open_agg2 Try.underlying51 one51 ce51 hv h
  obtain ⟨k0, e0, _, w0⟩ := DataW.trod_int Try.underlying3 h0
  obtain ⟨k1, e1, _, w1⟩ := DataW.trod_string Try.underlying9 h1
  simp only [List.cons.injEq, and_true] at e0 e1
  subst e0 e1
  exact ⟨k0, k1, rfl, wf_i64 w0, w1⟩
end Go.Proofs.Ytggjpallbapcmaa
