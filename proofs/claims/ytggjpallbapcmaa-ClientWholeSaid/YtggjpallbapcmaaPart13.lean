/-
  WHAT THE ROWS REST ON, part 13: Rlq Open Ope Opr.
-/
import Derived.Deep.Slices
import Derived.Deep.Fields
import Derived.ChangeSame
import Derived.Lib.SmallJoins
import Derived.Test.YtggjpallbapcmaaPart12
/-
  BOTH READERS ARE TOLD.
-/
namespace Go.Proofs.Ytggjpallbapcmaa
open Go.RowKit
theorem RwsD.bound {w : World} {V : Nat → Prop} {a : Option Addr} {LL : List (List Int)} (h : RwsD w V a LL) : RwsD w (fun q => V q ∧ q < w.heap.size) a LL := fun i hi => by
  obtain ⟨g, o, q, c, e, hl, hv, ck, nn⟩ := h i hi
  refine ⟨g, o, q, c, e, hl, ⟨hv, hl⟩, ck, nn.1, fun p e2 hx => ⟨nn.2 p e2 hx, ?_⟩⟩
  obtain ⟨y, l, hyl⟩ := List.exists_cons_of_ne_nil hx
  obtain ⟨g3, o3, e3, hg3, _⟩ := nn.1 0 (by rw [hyl]; simp)
  rw [e3] at e2; cases e2; exact hg3
theorem rws_D {w : World} {a : Option Addr} {LL : List (List Int)} (h : Bk.Rws w a LL) : RwsD w (fun q => q < w.heap.size) a LL := fun i hi => by
  obtain ⟨g, o, q, c, e, hl, ck, nn⟩ := h i hi
  refine ⟨g, o, q, c, e, hl, hl, ck, nn, fun p e2 hx => ?_⟩
  obtain ⟨y, l, hyl⟩ := List.exists_cons_of_ne_nil hx
  obtain ⟨g3, o3, e3, hg3, _⟩ := nn 0 (by rw [hyl]; simp)
  rw [e3] at e2; cases e2; exact hg3
/-- the document's reader is told: what its call leaves -/
def DocS (w : World) (V : Nat → Prop) (nodes : Int) (s' : RS) (e : Ending) (w' : World) : Prop :=
  ∃ an cn ag cg, e = .returned (docV nodes s'.to s'.at_ s'.gone (.slice an s'.LG.length cn) (.slice ag s'.LG.length cg)) ∧ NumsD w' (fun q => V q ∨ w.heap.size ≤ q) an (s'.LG.map (·.1)) ∧ RwsD w' (fun q => V q ∨ w.heap.size ≤ q) ag (s'.LG.map (·.2)) ∧ Below w.heap.size w w'
section
variable {W0 w : World} {t bx : Nat} {nodes : Int} {nm : ByteArray} {most : Int} {U V : Nat → Prop} {s s2 : RS} {an : Option Addr} {cn : Nat} {ag : Option Addr} {cg m : Nat}
theorem LRa.told (h : LRa W0 w t bx nodes nm most U V s s2 an cn ag cg) (ok : s2.Ok m) (hm : m ≤ 4900) {v2 : World} (b : Below w.heap.size w v2) {a2 : Option Addr} {LL : List (List Int)} (c2 : Nat) (n e : Int) (hR : RwsD v2 (fun q => (q < W0.heap.size ∨ w.heap.size ≤ q) ∧ q < v2.heap.size) a2 LL) (hl : LL.length ≤ 20) (hn : n ≤ 9223372036854775807) :
    Calls Try.prog 19 #[docV nodes s2.to s2.at_ s2.gone (.slice an s2.LG.length cn) (.slice ag s2.LG.length cg), .slice a2 LL.length c2, .int .i64 n, .int .i64 e] v2 (fun r w' => DocS w V nodes (s2.told nodes LL n e) r w') := by
  have D2 := h.dc.next b
  have hb := b.size
  have D3 : DocA v2 (fun q => V q ∨ (w.heap.size ≤ q ∧ q < v2.heap.size)) an ag s2.LG := ⟨D2.n.mono (fun _ hq => .inl hq), D2.g.mono (fun _ hq => .inl hq)⟩
  have R3 : RwsD v2 (fun q => V q ∨ (w.heap.size ≤ q ∧ q < v2.heap.size)) a2 LL := hR.mono (fun q hq => by
    rcases hq.1 with h1 | h1
    · exact .inl (h.va q h1)
    · exact .inr ⟨h1, hq.2⟩)
  refine (rtold_all c2 n e D3 ok hm (fun q hq => ?_) R3 hl hn).mono ?_
  · rcases hq with h1 | h1
    · have := (h.vl q h1).1; omega
    · exact h1.2
  · rintro r w' ⟨an', cn', ag', cg', rfl, n', g', b'⟩
    have up : ∀ q, ((V q ∨ (w.heap.size ≤ q ∧ q < v2.heap.size)) ∨ v2.heap.size ≤ q) → (V q ∨ w.heap.size ≤ q) := fun q hq => by
      rcases hq with (h1 | h1) | h1
      · exact .inl h1
      · exact .inr h1.1
      · right; omega
    exact ⟨an', cn', ag', cg', rfl, n'.mono up, g'.mono up, b.trans (b'.mono hb)⟩
/-- the answer is stored -/
theorem LRa.stored {s' : RS} {v3 : World} {an' : Option Addr} {cn' : Nat} {ag' : Option Addr} {cg' : Nat} (h : LRa W0 w t bx nodes nm most U V s s2 an cn ag cg) (b : Below w.heap.size w v3)
    (n' : NumsD v3 (fun q => V q ∨ w.heap.size ≤ q) an' (s'.LG.map (·.1))) (g' : RwsD v3 (fun q => V q ∨ w.heap.size ≤ q) ag' (s'.LG.map (·.2))) :
    ∃ w4, w4 = ((((((v3.setCell ⟨bx, 0, none⟩ (.int .i64 nodes)).setCell ⟨bx, 1, none⟩ (.int .i64 s'.to)).setCell ⟨bx, 2, none⟩ (.int .i64 s'.at_)).setCell ⟨bx, 3, none⟩ (.int .i64 s'.gone)).setCell ⟨bx, 4, none⟩ (.slice an' s'.LG.length cn')).setCell ⟨bx, 5, none⟩ (.slice ag' s'.LG.length cg')) ∧
      LR W0 t bx nodes nm most s s' w4 ∧ Fr v3 w4 (fun q => q = bx) := by
  have K := h.bk.below b
  unfold boxD at K
  have f : Fr v3 ((((((v3.setCell ⟨bx, 0, none⟩ (.int .i64 nodes)).setCell ⟨bx, 1, none⟩ (.int .i64 s'.to)).setCell ⟨bx, 2, none⟩ (.int .i64 s'.at_)).setCell ⟨bx, 3, none⟩ (.int .i64 s'.gone)).setCell ⟨bx, 4, none⟩ (.slice an' s'.LG.length cn')).setCell ⟨bx, 5, none⟩ (.slice ag' s'.LG.length cg')) (fun q => q = bx) :=
    (((((((Fr.refl v3 (fun q => q = bx)).set bx 0 _ (.inl rfl)).set bx 1 _ (.inl rfl)).set bx 2 _ (.inl rfl)).set bx 3 _ (.inl rfl)).set bx 4 _ (.inl rfl)).set bx 5 _ (.inl rfl))
  have k0 := K.set 0 (.int .i64 nodes)
  have k1 := k0.set 1 (.int .i64 s'.to)
  have k2 := k1.set 2 (.int .i64 s'.at_)
  have k3 := k2.set 3 (.int .i64 s'.gone)
  have k4 := k3.set 4 (.slice an' s'.LG.length cn')
  have k5 := k4.set 5 (.slice ag' s'.LG.length cg')
  exact ⟨_, rfl, h.doc b n' g' f k5, f⟩
end
/-- the program's reader is told -/
theorem LR.told {W0 w : World} {t bx : Nat} {nodes : Int} {nm : ByteArray} {most : Int} {s s2 : RS} {m : Nat} {a : Option Addr} {LL : List (List Int)} (c : Nat) (n e : Int) (h : LR W0 t bx nodes nm most s s2 w) (ok : s.Ok m) (hm : m ≤ 4900) (hN : nodes ≤ 7)
    (RW : Bk.Rws W0 a LL) (hS : Small LL) (hl : LL.length ≤ 20) (hn : n ≤ 9223372036854775807) :
    Calls Try.prog 21 #[.pointer (some ⟨t, 0, none⟩), .slice a LL.length c, .int .i64 n, .int .i64 e] w fun r w' => r = .returned (.tuple #[]) ∧ LR W0 t bx nodes nm most (s.told nodes LL n e) s2 w' := by
  obtain ⟨U, V, an, cn, ag, cg, h⟩ := h
  refine (told_all c n e h.rd ok hm hN (fun w' f => ?_) hS hl hn).mono fun r w' ⟨he, k⟩ => ⟨he, h.reader k⟩
  have b : Below W0.heap.size W0 w' := h.b.trans (f.below h.ul h.b.size)
  exact RW.next b
theorem LR.late {W0 w : World} {t bx : Nat} {nodes : Int} {nm : ByteArray} {most : Int} {s s2 : RS} {m : Nat} (h : LR W0 t bx nodes nm most s s2 w) (ok : s.Ok m) (hN : nodes ≤ 7) :
    Calls Try.prog 22 #[.pointer (some ⟨t, 0, none⟩)] w fun r w' => r = .returned (.tuple #[]) ∧ LR W0 t bx nodes nm most ⟨nextN s.to nodes, s.at_, s.gone, s.LG⟩ s2 w' := by
  obtain ⟨U, V, an, cn, ag, cg, h⟩ := h
  have h3 := ok.to
  exact (rlate_ch h.rd ⟨h3.1, by omega⟩ (by omega)).mono fun r w' ⟨he, k⟩ => ⟨he, h.reader k⟩
theorem told_late (nodes : Int) (s : RS) : s.told nodes [] (-1) 1 = ⟨nextN s.to nodes, s.at_, s.gone, s.LG⟩ := by
  unfold RS.told
  rw [if_neg (by omega), if_neg (by omega)]
end Go.Proofs.Ytggjpallbapcmaa
/-
  FOR THE ROWS: a value that came in.
-/
namespace Go.Proofs.Ytggjpallbapcmaa
open Go.Joins Go.ChangeShapes Go.WideShapes Go.RowKit Go.Deep
theorem trod_float {H : Type} {enc : TypeId × Value → H} {P : Program} {w : World} {base : Nat} {spare : Nat → Bool} {held : Bool} {fuel : Nat} {t : TypeId} {cs : List Value} {x : DataW H × List MemPlace} {k : FloatKind} (ht : P.underlying t = some (.float k)) (h : DataW.trod enc P w base spare held fuel t cs = some x) :
    ∃ n, cs = [.float k n] ∧ x = (.lit (.float k n), []) ∧ (Lit.float k n).wf = true := by
  cases fuel with
  | zero => simp [DataW.trod] at h
  | succ n =>
    unfold DataW.trod at h
    rw [ht] at h
    split at h <;> simp_all
theorem wf_f64 {n : Nat} (h : (Lit.float .f64 n).wf = true) : n < 18446744073709551616 := by
  have h2 : n < 2 ^ 64 := of_decide_eq_true h
  omega
theorem wf_i64 {n : Int} (h : (Lit.int .i64 n).wf = true) : -9223372036854775808 ≤ n ∧ n ≤ 9223372036854775807 := by
  have := bounds_i64 h
  exact ⟨by omega, by omega⟩
theorem one47 : oneCellFields Try.prog #[{ name := "Kind", type := 3, offset := 0, embedded := false, tag := "", pkgPath := "", byteOffset := 0 }, { name := "N", type := 3, offset := 1, embedded := false, tag := "", pkgPath := "", byteOffset := 8 }, { name := "F", type := 101, offset := 2, embedded := false, tag := "", pkgPath := "", byteOffset := 16 }, { name := "S", type := 9, offset := 3, embedded := false, tag := "", pkgPath := "", byteOffset := 24 }] = true := by kernel_rfl
theorem ce47 : Try.prog.cellsOf 103 = 4 := by kernel_rfl
set_option maxRecDepth 100000 in
theorem open_val {H : Type} {enc : TypeId × Value → H} {W : World} {base : Nat} {v : Value} {d : DataW H} {p : List MemPlace} (hv : Value.okWide Try.prog W .any base 103 v) (h : DataW.Trod enc Try.prog W 0 (fun _ => true) true 103 v d p) : ∃ a : Val, v = a.val ∧ a.Wf := by
  obtain ⟨v0, v1, v2, v3, y0, y1, y2, y3, n, rfl, _, _, h0, h1, h2, h3⟩ := open_agg4 Try.underlying103 one47 ce47 hv h
  obtain ⟨k0, e0, _, w0⟩ := DataW.trod_int Try.underlying3 h0
  obtain ⟨k1, e1, _, w1⟩ := DataW.trod_int Try.underlying3 h1
  obtain ⟨f2, e2, _, w2⟩ := trod_float Try.underlying101 h2
  obtain ⟨s3, e3, _, w3⟩ := DataW.trod_string Try.underlying9 h3
  simp only [List.cons.injEq, and_true] at e0 e1 e2 e3
  subst e0 e1 e2 e3
  exact ⟨⟨k0, k1, f2, s3⟩, rfl, wf_i64 w0, (wf_i64 w1).1, (wf_i64 w1).2, wf_f64 w2⟩
end Go.Proofs.Ytggjpallbapcmaa
/-
  FOR THE ROWS: an event that came in.
-/
namespace Go.Proofs.Ytggjpallbapcmaa
open Go.Joins Go.ChangeShapes Go.WideShapes Go.RowKit Go.Deep
theorem weightsAll_mem {H : Type} {P : Program} {e : TypeId} : ∀ {l : List (DataW H)} {d : DataW H} {n : Nat}, d ∈ l → n ∈ d.weights P e → n ∈ DataW.weightsAll P e l
  | x :: r, d, n, hd, hn => by
    simp only [DataW.weightsAll, List.mem_append]
    rcases List.mem_cons.1 hd with rfl | hd
    · exact .inl hn
    · exact .inr (weightsAll_mem hd hn)
theorem one24 : oneCellFields Try.prog #[{ name := "Session", type := 3, offset := 0, embedded := false, tag := "", pkgPath := "", byteOffset := 0 }, { name := "Seq", type := 3, offset := 1, embedded := false, tag := "", pkgPath := "", byteOffset := 8 }, { name := "Stamp", type := 3, offset := 2, embedded := false, tag := "", pkgPath := "", byteOffset := 16 }, { name := "Kind", type := 9, offset := 3, embedded := false, tag := "", pkgPath := "", byteOffset := 24 }, { name := "Fields", type := 29, offset := 4, embedded := false, tag := "", pkgPath := "", byteOffset := 40 }] = true := by kernel_rfl
theorem ce24 : Try.prog.cellsOf 31 = 5 := by kernel_rfl
theorem ce65 : Try.prog.cellsOf 105 = 5 := by kernel_rfl
theorem ce9 : Try.prog.cellsOf 9 = 1 := by kernel_rfl
theorem ce3 : Try.prog.cellsOf 3 = 1 := by kernel_rfl
theorem ce45 : Try.prog.cellsOf 101 = 1 := by kernel_rfl
theorem open_agg5 {H : Type} {enc : TypeId × Value → H} {P : Program} {w : World} {base : Nat} {spare : Nat → Bool} {held : Bool} {r : Reach} {b0 : Nat} {t : TypeId} {f0 f1 f2 f3 f4 : Field} {v : Value} {d : DataW H} {p : List MemPlace} (hs : P.underlying t = some (.struct #[f0, f1, f2, f3, f4])) (hone : oneCellFields P #[f0, f1, f2, f3, f4] = true) (hC : P.cellsOf t = 5)
    (hv : Value.okWide P w r b0 t v) (h : DataW.Trod enc P w base spare held t v d p) :
    ∃ (v0 v1 v2 v3 v4 : Value) (y0 y1 y2 y3 y4 : DataW H × List MemPlace) (n : Nat), v = .agg #[v0, v1, v2, v3, v4] ∧ d = .agg [y0.1, y1.1, y2.1, y3.1, y4.1] ∧ p = y0.2 ++ (y1.2 ++ (y2.2 ++ (y3.2 ++ y4.2))) ∧
      DataW.trod enc P w base spare held n f0.type [v0] = some y0 ∧ DataW.trod enc P w base spare held n f1.type [v1] = some y1 ∧ DataW.trod enc P w base spare held n f2.type [v2] = some y2 ∧ DataW.trod enc P w base spare held n f3.type [v3] = some y3 ∧ DataW.trod enc P w base spare held n f4.type [v4] = some y4 := by
  obtain ⟨cs, rfl, hsz⟩ := okWide_struct hs hv
  obtain ⟨l⟩ := cs
  match l, hsz.trans hC with
  | [c0, c1, c2, c3, c4], _ =>
    obtain ⟨fuel, hf⟩ := h
    obtain ⟨xs, n, _, hx, _, hlen, hg⟩ := DataW.trod_struct hs hf
    obtain ⟨o0, k0⟩ := hone_of hone 0 f0 rfl
    obtain ⟨o1, k1⟩ := hone_of hone 1 f1 rfl
    obtain ⟨o2, k2⟩ := hone_of hone 2 f2 rfl
    obtain ⟨o3, k3⟩ := hone_of hone 3 f3 rfl
    obtain ⟨o4, k4⟩ := hone_of hone 4 f4 rfl
    match xs, hlen with
    | [y0, y1, y2, y3, y4], _ =>
      simp only [Prod.mk.injEq] at hx
      exact ⟨c0, c1, c2, c3, c4, y0, y1, y2, y3, y4, n, rfl, by simpa using hx.1, by simpa using hx.2, by simpa [Value.cells, o0, k0] using hg 0 f0 rfl, by simpa [Value.cells, o1, k1] using hg 1 f1 rfl, by simpa [Value.cells, o2, k2] using hg 2 f2 rfl, by simpa [Value.cells, o3, k3] using hg 3 f3 rfl, by simpa [Value.cells, o4, k4] using hg 4 f4 rfl⟩
theorem add_at (b o n : Nat) : (⟨b, o, none⟩ : Addr).add n = ⟨b, o + n, none⟩ := by unfold Addr.add; split <;> simp_all
section
variable {H : Type} {enc : TypeId × Value → H} {W : World} {base : Nat}
set_option maxRecDepth 100000 in
theorem open_fld {b0 n : Nat} {sp : Nat → Bool} {hd : Bool} {a : Addr} {cs : List Value} {y : DataW H × List MemPlace} (h1 : W.cells? b0 a 5 = some cs) (h2 : DataW.trod enc Try.prog W b0 sp hd n 105 cs = some y) :
    ∃ x : Fld, x.v.Wf ∧ W.cell? (a.add 0) = some (.string x.nm) ∧ W.cell? (a.add 1) = some (.int .i64 x.v.k) ∧ W.cell? (a.add 2) = some (.int .i64 x.v.n) ∧ W.cell? (a.add 3) = some (.float .f64 x.v.f) ∧ W.cell? (a.add 4) = some (.string x.v.s) ∧ x.v.s.size ∈ y.1.weights Try.prog 105 ∧ x.nm.size ≤ maxLen ∧ x.v.s.size ≤ maxLen := by
  obtain ⟨_, hlen, hcell⟩ := World.cells?_some h1
  obtain ⟨xs, k, hk, hxy, _, hxl, hf⟩ := DataW.trod_struct Try.underlying105 h2
  match xs, hxl, cs, hlen with
  | [y0, y1], _, [v0, v1, v2, v3, v4], _ =>
    have g0 := hf 0 _ rfl
    have g1 := hf 1 _ rfl
    simp [ce9, ce47] at g0 g1
    obtain ⟨s0, e0, _, w0⟩ := DataW.trod_string Try.underlying9 g0
    obtain ⟨zs, k', hk', hzy, _, hzl, hz⟩ := DataW.trod_struct Try.underlying103 g1
    match zs, hzl with
    | [z0, z1, z2, z3], _ =>
      have t0 := hz 0 _ rfl
      have t1 := hz 1 _ rfl
      have t2 := hz 2 _ rfl
      have t3 := hz 3 _ rfl
      simp [ce9, ce3, ce45] at t0 t1 t2 t3
      obtain ⟨k0, q0, _, u0⟩ := DataW.trod_int Try.underlying3 t0
      obtain ⟨k1, q1, _, u1⟩ := DataW.trod_int Try.underlying3 t1
      obtain ⟨k2, q2, _, u2⟩ := trod_float Try.underlying101 t2
      obtain ⟨k3, q3, x3, u3⟩ := DataW.trod_string Try.underlying9 t3
      simp only [List.cons.injEq, and_true] at e0 q0 q1 q2 q3
      subst e0 q0 q1 q2 q3
      refine ⟨⟨s0, k0, k1, k2, k3⟩, ⟨wf_i64 u0, (wf_i64 u1).1, (wf_i64 u1).2, wf_f64 u2⟩, ?_, ?_, ?_, ?_, ?_, ?_, w0, u3⟩
      · simpa using hcell 0 (by omega)
      · simpa using hcell 1 (by omega)
      · simpa using hcell 2 (by omega)
      · simpa using hcell 3 (by omega)
      · simpa using hcell 4 (by omega)
      · rw [hxy]
        simp only [List.map_cons, List.map_nil, DataW.weights, Try.underlying105]
        refine DataW.weights_mem_each (j := 1) (t := 103) (d := y1.1) rfl rfl _ ?_
        rw [hzy]
        simp only [List.map_cons, List.map_nil, DataW.weights, Try.underlying103]
        refine DataW.weights_mem_each (j := 3) (t := 9) (d := z3.1) rfl rfl _ ?_
        rw [x3]
        simp only [DataW.weights, List.mem_singleton]
        rw [Array.length_toList]; rfl
set_option maxRecDepth 100000 in
theorem open_event {v : Value} {d : DataW H} {p : List MemPlace} (hv : Value.okWide Try.prog W .any base 31 v) (h : DataW.Trod enc Try.prog W 0 (fun _ => true) true 31 v d p) :
    ∃ (a b c : Int) (k : ByteArray) (q : Option Addr) (cp : Nat) (L : List Fld), v = evV a b c k (.slice q L.length cp) ∧ Flds W q L ∧ L.length ≤ 9223372036854775807 ∧ (∀ x ∈ L, x.v.Wf ∧ x.nm.size ≤ maxLen ∧ x.v.s.size ≤ maxLen) ∧ k.size ≤ maxLen ∧
      (-9223372036854775808 ≤ a ∧ a ≤ 9223372036854775807) ∧ (-9223372036854775808 ≤ b ∧ b ≤ 9223372036854775807) ∧ (-9223372036854775808 ≤ c ∧ c ≤ 9223372036854775807) ∧ ((∀ n ∈ d.weights Try.prog 31, n ≤ reachBytes) → ∀ x ∈ L, x.v.s.size ≤ reachBytes) := by
  obtain ⟨v0, v1, v2, v3, v4, y0, y1, y2, y3, y4, n, rfl, hd, _, h0, h1, h2, h3, h4⟩ := open_agg5 Try.underlying31 one24 ce24 hv h
  obtain ⟨k0, e0, _, w0⟩ := DataW.trod_int Try.underlying3 h0
  obtain ⟨k1, e1, _, w1⟩ := DataW.trod_int Try.underlying3 h1
  obtain ⟨k2, e2, _, w2⟩ := DataW.trod_int Try.underlying3 h2
  obtain ⟨s3, e3, _, w3⟩ := DataW.trod_string Try.underlying9 h3
  simp only [List.cons.injEq, and_true] at e0 e1 e2 e3
  subst e0 e1 e2 e3
  rcases Go.Deep.open_slice Try.underlying29 h4 with ⟨hcs, hy⟩ | ⟨a, len, cap, m, n', D, Pl, hcs, hb, hl, hm, hmm, hx, hi⟩
  · simp only [List.cons.injEq, and_true] at hcs
    subst hcs
    exact ⟨k0, k1, k2, s3, none, 0, [], rfl, fun i hi => by simp at hi, by simp, fun x hx => by simp at hx, w3, wf_i64 w0, wf_i64 w1, wf_i64 w2, fun _ x hx => by simp at hx⟩
  · simp only [List.cons.injEq, and_true] at hcs
    subst hcs
    have hlm : len ≤ m := by rw [hmm]; split <;> omega
    have hall : ∀ i, i < len → ∃ x : Fld, x.v.Wf ∧ W.cell? ((a.add (i * 5)).add 0) = some (.string x.nm) ∧ W.cell? ((a.add (i * 5)).add 1) = some (.int .i64 x.v.k) ∧ W.cell? ((a.add (i * 5)).add 2) = some (.int .i64 x.v.n) ∧ W.cell? ((a.add (i * 5)).add 3) = some (.float .f64 x.v.f) ∧ W.cell? ((a.add (i * 5)).add 4) = some (.string x.v.s) ∧ x.v.s.size ∈ (D i).weights Try.prog 105 ∧ x.nm.size ≤ maxLen ∧ x.v.s.size ≤ maxLen := fun i hi' => by
      obtain ⟨cs', hc, ht⟩ := hi i (by omega)
      rw [ce65] at hc
      exact open_fld hc ht
    have hsp : 0 < len → a.spot = none := fun h0 => by
      obtain ⟨x, _, c0, _⟩ := hall 0 h0
      obtain ⟨b, o, s⟩ := a
      cases s with
      | none => rfl
      | some q =>
        exfalso
        have e0 : ((⟨b, o, some q⟩ : Addr).add (0 * 5)).add 0 = ⟨b, o, some q⟩ := by simp [Addr.add]
        rw [e0] at c0
        have h01 : W.cell? ⟨b, o, some q⟩ = none := by
          unfold World.cell?
          split <;> simp
        rw [h01] at c0; simp at c0
    obtain ⟨f, hf⟩ : ∃ f : Nat → Fld, ∀ i, i < len → (f i).v.Wf ∧ W.cell? ((a.add (i * 5)).add 0) = some (.string (f i).nm) ∧ W.cell? ((a.add (i * 5)).add 1) = some (.int .i64 (f i).v.k) ∧ W.cell? ((a.add (i * 5)).add 2) = some (.int .i64 (f i).v.n) ∧ W.cell? ((a.add (i * 5)).add 3) = some (.float .f64 (f i).v.f) ∧ W.cell? ((a.add (i * 5)).add 4) = some (.string (f i).v.s) ∧ (f i).v.s.size ∈ (D i).weights Try.prog 105 ∧ (f i).nm.size ≤ maxLen ∧ (f i).v.s.size ≤ maxLen :=
      ⟨fun i => if h : i < len then Classical.choose (hall i h) else ⟨⟨#[]⟩, 0, 0, 0, ⟨#[]⟩⟩, fun i h => by
        simp only [dif_pos h]
        exact Classical.choose_spec (hall i h)⟩
    have e1 : ((List.range len).map f).length = len := by rw [List.length_map, List.length_range]
    refine ⟨k0, k1, k2, s3, some a, cap, (List.range len).map f, by rw [e1]; rfl, ?_, by rw [e1]; unfold maxLen at hm; omega, fun x hx => ?_, w3, wf_i64 w0, wf_i64 w1, wf_i64 w2, fun hw x hx' => ?_⟩
    · intro i hi'
      have hil : i < len := by rw [e1] at hi'; exact hi'
      have hs := (hf i hil).2
      have eg : ((List.range len).map f)[i] = f i := by rw [List.getElem_map, List.getElem_range]
      rw [eg]
      have hsn := hsp (by omega)
      clear hf hall hsp hi hmm
      obtain ⟨b, o, s⟩ := a
      simp only at hsn
      subst hsn
      simp only [add_at, Nat.add_zero] at hs
      exact ⟨b, o, rfl, World.block_lt_of_cell? _ _ hs.1, hs.1, hs.2.1, hs.2.2.1, hs.2.2.2.1, hs.2.2.2.2.1⟩
    · obtain ⟨i, hi', rfl⟩ := List.mem_map.1 hx
      have := hf i (List.mem_range.1 hi')
      exact ⟨this.1, this.2.2.2.2.2.2.2.1, this.2.2.2.2.2.2.2.2⟩
    · obtain ⟨i, hi', rfl⟩ := List.mem_map.1 hx'
      have hil := List.mem_range.1 hi'
      refine hw _ ?_
      rw [hd]
      simp only [DataW.weights, Try.underlying31]
      refine DataW.weights_mem_each (j := 4) (t := 29) (d := y4.1) rfl rfl _ ?_
      rw [hx]
      simp only [DataW.weights, Try.underlying29]
      refine List.mem_cons_of_mem _ (List.mem_append.2 (.inl ?_))
      exact weightsAll_mem (List.mem_map.2 ⟨i, hi', rfl⟩) (hf i hil).2.2.2.2.2.2.1
end
end Go.Proofs.Ytggjpallbapcmaa
/-
  FOR THE ROWS: a reply that came in.
-/
namespace Go.Proofs.Ytggjpallbapcmaa
open Go.Joins Go.ChangeShapes Go.WideShapes Go.RowKit Go.Deep
theorem one34 : oneCellFields Try.prog #[{ name := "Err", type := 32, offset := 0, embedded := false, tag := "", pkgPath := "", byteOffset := 0 }, { name := "N", type := 3, offset := 1, embedded := false, tag := "", pkgPath := "", byteOffset := 8 }] = true := by kernel_rfl
theorem ce34 : Try.prog.cellsOf 34 = 2 := by kernel_rfl
set_option maxRecDepth 100000 in
theorem open_reply {H : Type} {enc : TypeId × Value → H} {W : World} {base : Nat} {v : Value} {d : DataW H} {p : List MemPlace} (hv : Value.okWide Try.prog W .any base 34 v) (h : DataW.Trod enc Try.prog W 0 (fun _ => true) true 34 v d p) :
    ∃ a b : Int, v = .agg #[.int .i64 a, .int .i64 b] ∧ (-9223372036854775808 ≤ a ∧ a ≤ 9223372036854775807) ∧ (-9223372036854775808 ≤ b ∧ b ≤ 9223372036854775807) := by
  obtain ⟨v0, v1, y0, y1, n, rfl, _, _, h0, h1⟩ := open_agg2 Try.underlying34 one34 ce34 hv h
  obtain ⟨k0, e0, _, w0⟩ := DataW.trod_int Try.underlying32 h0
  obtain ⟨k1, e1, _, w1⟩ := DataW.trod_int Try.underlying3 h1
  simp only [List.cons.injEq, and_true] at e0 e1
  subst e0 e1
  exact ⟨k0, k1, rfl, wf_i64 w0, wf_i64 w1⟩
end Go.Proofs.Ytggjpallbapcmaa
