/-
  WHAT THE ROWS REST ON, part 18: Tta Tnm Part Rless.
-/
import Derived.RegionTactic
import Derived.Test.YtkajadkmdcalmaaGreatDoorPart17
/-
  tree.Atom 17.
-/
namespace Go.Proofs.YtkajadkmdcalmaaGreatDoor
open Go.RowKit
/-- a condition on the fields of an event -/
def condE (L : List Fld) (c : Cnd) : Bool := (findF L c.nm).isSome && opS c.op (stV (optV (findF L c.nm)) c.v)
def atomE (op : Int) (kind k : ByteArray) (cs : List Cnd) (L : List Fld) : Bool := decide (op = 1 ∧ (kind = ⟨#[]⟩ ∨ kind = k)) && cs.all (condE L)
def ndV (op : Int) (kind : ByteArray) (ca : Option Addr) (m cc : Nat) (lo hi : Int) (kv : Value) : Value := .agg #[.int .i64 op, .string kind, .slice ca m cc, .int .i64 lo, .int .i64 hi, kv]
theorem findF_wf {L : List Fld} (h : ∀ x ∈ L, x.v.Wf) (s : ByteArray) : (optV (findF L s)).Wf := by
  induction L with
  | nil => show Val.Wf v0; exact ⟨by decide, by decide, by decide, by decide⟩
  | cons x r ih =>
    unfold findF
    by_cases e : x.nm = s
    · rw [if_pos e]; exact h x List.mem_cons_self
    · rw [if_neg e]; exact ih fun y hy => h y (List.mem_cons_of_mem _ hy)
theorem empty_str (a : ByteArray) : a.toList.isEmpty = decide (a = ⟨#[]⟩) := by
  rw [← str_eq, show (ByteArray.mk #[]).toList = [] by decide +kernel]
  cases a.toList <;> rfl
set_option maxHeartbeats 1000000 in
set_option maxRecDepth 100000 in
theorem atom_any {w : World} (op : Int) (kind : ByteArray) (ca : Option Addr) (cc : Nat) (lo hi : Int) (kv : Value) (cs : List Cnd) (a b c : Int) (k : ByteArray) (p : Option Addr) (cp : Nat) (L : List Fld)
    (hcs : Cnds w ca cs) (hl : L.length ≤ 100) (hm : cs.length ≤ 100) (hx : Flds w p L) (hS : ∀ x ∈ L, x.v.s.size ≤ 281474976710656) (hW : ∀ x ∈ L, x.v.Wf) (hC : ∀ c ∈ cs, c.v.Wf) :
    Calls Tryz.prog 17 #[ndV op kind ca cs.length cc lo hi kv, evV a b c k (.slice p L.length cp)] w fun e w' => e = .returned (.bool (atomE op kind k cs L)) ∧ Below w.heap.size w w' := by
  obtain ⟨W, hW1, K0, K1, BW⟩ : ∃ W, W = (w.alloc (.cells #[.int .i64 op, .string kind, .slice ca cs.length cc, .int .i64 lo, .int .i64 hi, kv] 43)).alloc (.cells #[.int .i64 a, .int .i64 b, .int .i64 c, .string k, .slice p L.length cp] 46) ∧
      Blk W w.heap.size 43 #[.int .i64 op, .string kind, .slice ca cs.length cc, .int .i64 lo, .int .i64 hi, kv] ∧ Blk W (w.heap.size + 1) 46 #[.int .i64 a, .int .i64 b, .int .i64 c, .string k, .slice p L.length cp] ∧ Below w.heap.size w W := by
    obtain ⟨k0, b0, s0, -⟩ := alloc_blk (Below.refl w.heap.size w) (Nat.le_refl _) #[.int .i64 op, .string kind, .slice ca cs.length cc, .int .i64 lo, .int .i64 hi, kv] 43
    generalize w.alloc (.cells #[.int .i64 op, .string kind, .slice ca cs.length cc, .int .i64 lo, .int .i64 hi, kv] 43) = W0 at *
    obtain ⟨k1, b1, s1, f1⟩ := alloc_blk b0 (by omega) #[.int .i64 a, .int .i64 b, .int .i64 c, .string k, .slice p L.length cp] 46
    rw [s0] at k1
    exact ⟨_, rfl, f1 _ _ _ k0, k1, b1⟩
  have HW := Lib.hid hW1
  have BWh := Lib.hid BW
  have d0 : W.cell? ⟨w.heap.size, 0, none⟩ = some (.int .i64 op) := K0.cell 0
  have d1 : W.cell? ⟨w.heap.size, 1, none⟩ = some (.string kind) := K0.cell 1
  have d2 : W.cell? ⟨w.heap.size, 2, none⟩ = some (.slice ca cs.length cc) := K0.cell 2
  have d3 : W.cell? ⟨w.heap.size + 1, 3, none⟩ = some (.string k) := K1.cell 3
  have HZ : w.heap.size + 1 < W.heap.size := K1.lt
  have EV := Lib.hid (fun (w' : World) (h : Below W.heap.size W w') => K1.below h)
  have CS := Lib.hid (fun (w' : World) (h : Below w.heap.size w w') => hcs.below h)
  have GT := Lib.hid (fun (w' : World) (h : Below w.heap.size w w') s => get_any a b c k s p cp L w' hl (hx.below h) hS)
  have FW := Lib.hid (findF_wf hW)
  have HC := Lib.hid hC
  generalize hmm : cs.length = m at *
  have HM := Lib.hid hmm
  clear hW1 K0 K1 BW hcs hx hS hW hC hmm
  unfold ndV evV atomE
  unfold evV at GT
  by_cases ho : ¬ op = 1
  · rw [show decide (op = 1 ∧ (kind = ⟨#[]⟩ ∨ kind = k)) = false from decide_eq_false (fun h => ho h.1), Bool.false_and]
    have e1 : (op == 1) = false := by simpa using ho
    have e3 : (op != 1) = true := by simpa using ho
    go_enter Tryz.func17, Tryz.ntmps17
    go_wp2_with fail
    rw [← HW.out]
    go_ret
    exact ⟨rfl, BWh.out⟩
  have ho := Decidable.not_not.1 ho
  subst ho
  by_cases hk : ¬ (kind = ⟨#[]⟩ ∨ kind = k)
  · rw [show decide ((1 : Int) = 1 ∧ (kind = ⟨#[]⟩ ∨ kind = k)) = false from decide_eq_false (fun h => hk h.2), Bool.false_and]
    have e1 : kind.toList.isEmpty = false := by rw [empty_str]; exact decide_eq_false fun h => hk (.inl h)
    have e2 : (kind.toList == k.toList) = false := by rw [str_eq]; exact decide_eq_false fun h => hk (.inr h)
    clear hk
    go_enter Tryz.func17, Tryz.ntmps17
    go_wp2_with fail
    rw [← HW.out]
    go_ret
    exact ⟨rfl, BWh.out⟩
  have hk := Decidable.not_not.1 hk
  rw [show decide ((1 : Int) = 1 ∧ (kind = ⟨#[]⟩ ∨ kind = k)) = true from decide_eq_true ⟨rfl, hk⟩, Bool.true_and]
  have EC : kind.toList.isEmpty = true ∨ kind.toList.isEmpty = false ∧ (kind.toList == k.toList) = true := by
    by_cases h0 : kind = ⟨#[]⟩
    · exact .inl (by rw [empty_str]; exact decide_eq_true h0)
    · exact .inr ⟨by rw [empty_str]; exact decide_eq_false h0, by rw [str_eq]; exact decide_eq_true (hk.resolve_left h0)⟩
  clear hk
  generalize hY : w.heap.size = Y at *
  obtain e1 | ⟨e1, e2⟩ := EC
  all_goals
    go_enter Tryz.func17, Tryz.ntmps17
    go_wp2_with fail
    rw [← HW.out]
    go_loopw [27] (fun i wr => ∃ j : Nat, i = .int .i64 j ∧ j ≤ m ∧ Hid (Below W.heap.size W wr) ∧ Hid ((cs.take j).all (condE L) = true)) (fun i wr => m - (intOf i).toNat)
    case atStart => exact ⟨0, rfl, Nat.zero_le _, Lib.hid (Below.refl _ _), Lib.hid rfl⟩
    case round =>
      obtain ⟨j, rfl, hj, hB, hA⟩ := hrel
      have hBw : Below Y w wr := BWh.out.trans (hB.out.mono (by omega))
      have hyr : W.heap.size ≤ wr.heap.size := hB.out.size
      by_cases hjm : j < m
      · have jI : (j : Int) < (m : Int) := by omega
        have jJ := decide_eq_true jI
        have hjL : j < cs.length := by rw [HM.out]; exact hjm
        obtain ⟨g0, o, rfl, hg, x0, x1, x2, x3, x4, x5⟩ := CS.out wr hBw j hjL
        have E1 := EV.out wr hB.out
        have AT := Lib.hid (all_take hjL hA.out)
        have AF := Lib.hid (fun h => all_false (f := condE L) hjL h)
        have CW := Lib.hid (HC.out _ (List.getElem_mem hjL))
        generalize hcj : cs[j] = cj at *
        obtain ⟨W3, hW3, B3, S3⟩ : ∃ W3, W3 = wr.alloc (.cells #[.string cj.nm, .int .i64 cj.op, .int .i64 cj.v.k, .int .i64 cj.v.n, .float .f64 cj.v.f, .string cj.v.s] 74) ∧ Below W.heap.size W W3 ∧ Blk W3 wr.heap.size 74 #[.string cj.nm, .int .i64 cj.op, .int .i64 cj.v.k, .int .i64 cj.v.n, .float .f64 cj.v.f, .string cj.v.s] :=
          ⟨_, rfl, hB.out.alloc hyr _, heap_alloc_new wr _⟩
        have W3h := Lib.hid hW3
        have hyw := hyr
        have B3h := Lib.hid B3
        have S3h := Lib.hid S3
        have hYl : Y + 1 < wr.heap.size := by omega
        have v0 : wr.cell? ⟨Y + 1, 0, none⟩ = some (.int .i64 a) := E1.cell 0
        have v1 : wr.cell? ⟨Y + 1, 1, none⟩ = some (.int .i64 b) := E1.cell 1
        have v2 : wr.cell? ⟨Y + 1, 2, none⟩ = some (.int .i64 c) := E1.cell 2
        have v3 : wr.cell? ⟨Y + 1, 3, none⟩ = some (.string k) := E1.cell 3
        have v4 : wr.cell? ⟨Y + 1, 4, none⟩ = some (.slice p L.length cp) := E1.cell 4
        have BY3 : Hid (Below Y w W3) := Lib.hid (BWh.out.trans (B3.mono (by omega)))
        have G3 := Lib.hid (GT.out W3 BY3.out cj.nm)
        have F3 := Lib.hid (FW.out cj.nm)
        have hz3 : Hid (wr.heap.size < W3.heap.size) := Lib.hid S3.lt
        have CE : Hid (condE L cj = ((findF L cj.nm).isSome && opS cj.op (stV (optV (findF L cj.nm)) cj.v))) := Lib.hid rfl
        generalize findF L cj.nm = fo at *
        clear hW3 B3 S3 E1 hcj
        go_wp2_with fail
        rw [← W3h.out]
        (with_reducible refine G3.out.mono ?_)
        rintro e w2 ⟨rfl, b2⟩
        have S4 := S3h.out.below b2
        have t1 : w2.cell? ⟨wr.heap.size, 1, none⟩ = some (.int .i64 cj.op) := S4.cell 1
        have t2 : w2.cell? ⟨wr.heap.size, 2, none⟩ = some (.int .i64 cj.v.k) := S4.cell 2
        have t3 : w2.cell? ⟨wr.heap.size, 3, none⟩ = some (.int .i64 cj.v.n) := S4.cell 3
        have t4 : w2.cell? ⟨wr.heap.size, 4, none⟩ = some (.float .f64 cj.v.f) := S4.cell 4
        have t5 : w2.cell? ⟨wr.heap.size, 5, none⟩ = some (.string cj.v.s) := S4.cell 5
        have hz4 : wr.heap.size < w2.heap.size := S4.lt
        have BW2 := Lib.hid (B3h.out.trans (b2.mono (by have := hz3.out; omega)))
        clear b2 S4
        cases fo with
        | none =>
          unfold optV Val.val
          simp only [Option.getD_none, Option.isSome_none]
          unfold Go.Proofs.YtkajadkmdcalmaaGreatDoor.v0
          go_wp2_with fail
          go_ret
          exact ⟨by rw [AF.out (by rw [CE.out]; rfl)]; rfl, (BWh.out.trans (BW2.out.mono (by omega))).alloc (by omega) _⟩
        | some g =>
          have HO := Lib.hid (fun w' => evholds_any cj.op g cj.v F3.out CW.out w')
          unfold optV Val.val
          unfold Val.val at HO
          simp only [Option.getD_some, Option.isSome_some]
          cases ho : opS cj.op (stV g cj.v)
          · rw [ho] at HO
            have AF := Lib.hid (AF.out (by rw [CE.out]; unfold optV; simp only [Option.getD_some]; rw [ho]; rfl))
            clear ho
            go_wp2_with (go_at_call 32; refine (HO.out _).mono ?_; rintro e w3 ⟨rfl, b3⟩)
            go_ret
            exact ⟨by rw [AF.out]; rfl, ((BWh.out.trans (BW2.out.mono (by omega))).alloc (by omega) _).trans (b3.mono (by simp; omega))⟩
          · rw [ho] at HO
            have AT := Lib.hid (AT.out.trans (by rw [CE.out]; unfold optV; simp only [Option.getD_some]; rw [ho]; rfl : condE L cj = true))
            clear ho
            go_wp2_with (go_at_call 32; refine (HO.out _).mono ?_; rintro e w3 ⟨rfl, b3⟩)
            go_roundw
            case rel => exact ⟨j + 1, by go_num, by omega, Lib.hid ((BW2.out.alloc (by omega) _).trans (b3.mono (by simp; omega))), AT⟩
            case measure => simp [intOf]; omega
      · obtain rfl : j = m := by omega
        have jI : ¬ (j : Int) < (j : Int) := by omega
        have AL : Hid (cs.all (condE L) = true) := Lib.hid (by
          have := hA.out
          rw [List.take_of_length_le (by rw [HM.out]; exact Nat.le_refl _)] at this
          exact this)
        go_wp2_with fail
        go_ret
        exact ⟨by rw [AL.out]; rfl, hBw⟩
end Go.Proofs.YtkajadkmdcalmaaGreatDoor
/-
  A NODE AS THE DOCUMENT HAS IT (the law's node 19), plainly: the loop's invariant.
-/
namespace Go.Proofs.YtkajadkmdcalmaaGreatDoor
open Go.RowKit
def encC (x : Cnd) : List Value := [.string x.nm, .int .i64 x.op, .int .i64 x.v.k, .int .i64 x.v.n, .float .f64 x.v.f, .string x.v.s]
def cellsC (l : List Cnd) : List Value := l.flatMap encC
theorem cellsC_one (l : List Cnd) (x : Cnd) : cellsC (l ++ [x]) = cellsC l ++ encC x := by unfold cellsC; rw [List.flatMap_append]; simp
theorem cellsC_get : ∀ {l : List Cnd} {k : Nat} (h : k < l.length) (j : Nat), j < 6 → (cellsC l)[k * 6 + j]? = (encC l[k])[j]?
  | x :: l, 0, _, j, hj => by
    show (encC x ++ cellsC l)[0 * 6 + j]? = _
    rw [Nat.zero_mul, Nat.zero_add, List.getElem?_append_left (show j < (encC x).length from hj)]; rfl
  | x :: l, k + 1, h, j, hj => by
    have ih := cellsC_get (l := l) (k := k) (by simpa using h) j hj
    show (encC x ++ cellsC l)[(k + 1) * 6 + j]? = _
    have e : (encC x).length = 6 := rfl
    rw [List.getElem?_append_right (by omega), e, show (k + 1) * 6 + j - 6 = k * 6 + j by omega]
    exact ih
theorem cnds_own {w : World} {B t g cap n : Nat} {l : List Cnd} (hn : n = l.length) (h : w.ownsRow B t 6 (.slice (some ⟨g, 0, none⟩) n cap) n (cellsC l)) : Cnds w (some ⟨g, 0, none⟩) l := fun p hp => by
  have hg : g < w.heap.size := (World.ownsRow.lt h g rfl).2
  subst hn
  refine ⟨g, 0, rfl, hg, ?_, ?_, ?_, ?_, ?_, ?_⟩
  · have := cellsC_get hp 0 (by decide); rw [Nat.zero_add, World.ownsRow.cellAt h _ (by omega)]; simpa [encC] using this
  · have := cellsC_get hp 1 (by decide); rw [Nat.zero_add, World.ownsRow.cellAt h _ (by omega)]; simpa [encC] using this
  · have := cellsC_get hp 2 (by decide); rw [Nat.zero_add, World.ownsRow.cellAt h _ (by omega)]; simpa [encC] using this
  · have := cellsC_get hp 3 (by decide); rw [Nat.zero_add, World.ownsRow.cellAt h _ (by omega)]; simpa [encC] using this
  · have := cellsC_get hp 4 (by decide); rw [Nat.zero_add, World.ownsRow.cellAt h _ (by omega)]; simpa [encC] using this
  · have := cellsC_get hp 5 (by decide); rw [Nat.zero_add, World.ownsRow.cellAt h _ (by omega)]; simpa [encC] using this
theorem info82 : (Tryz.prog.info? 82).map (fun i => (i.zero, i.size, i.bytes)) = some (some (.agg #[.string ⟨#[]⟩, .int .i64 0, .int .i64 0, .int .i64 0, .float .f64 0, .string ⟨#[]⟩]), 6, 64) := by kernel_rfl
theorem cnd_form {w : World} {B : Nat} {v : Value} {n : Nat} {xs : List Value} (h : w.ownsRow B 82 6 v n xs) : ∃ a c, v = .slice a n c := by
  rcases h.2 with ⟨rfl, e⟩ | ⟨g, cap, cur, rfl, _⟩
  · exact ⟨none, 0, by rw [e]⟩
  · exact ⟨_, _, rfl⟩
/-- the round of the loop -/
structure NdI (w wq : World) (Y B : Nat) (op : Int) (kd : ByteArray) (lo hi : Int) (kv pv : Value) (L : List Cnd) (j : Nat) (u : Value) : Prop where
  e : Blk wq Y 43 #[.int .i64 op, .string kd, pv, .int .i64 lo, .int .i64 hi, kv]
  z : Blk wq (Y + 1) 51 #[.int .i64 0, .string ⟨#[]⟩, .slice none 0 0, .int .i64 0, .int .i64 0, .slice none 0 0]
  x : Blk wq (Y + 1 + 1) 51 #[.int .i64 op, .string kd, u, .int .i64 lo, .int .i64 hi, kv]
  o : wq.ownsRow B 82 6 u j (cellsC (L.take j))
  b : Below Y w wq
theorem NdI.push {w wq W0 w4 : World} {Y B : Nat} {op lo hi : Int} {kd : ByteArray} {kv pv : Value} {L : List Cnd} {j g cap : Nat} {u : Value} (h : NdI w wq Y B op kd lo hi kv pv L j u) (hB : Y + 1 + 1 < B) (hj : j < L.length) (hW : Below wq.heap.size wq W0)
    (ho : w4.ownsRow B 82 6 (.slice (some ⟨g, 0, none⟩) (j + 1) cap) (j + 1) (cellsC (L.take j) ++ encC L[j])) (hg : W0.grownBy w4 u.ownBlock) :
    NdI w (w4.setCell ⟨Y + 1 + 1, 2, none⟩ (.slice (some ⟨g, 0, none⟩) (j + 1) cap)) Y B op kd lo hi kv pv L (j + 1) (.slice (some ⟨g, 0, none⟩) (j + 1) cap) ∧ w4.frozen? ⟨Y + 1 + 1, 2, none⟩ = false ∧ w4.cell? ⟨Y + 1 + 1, 2, none⟩ = some u := by
  have hu : ∀ q, u.ownBlock = some q → B ≤ q := fun q hq => (World.ownsRow.lt h.o q hq).1
  have kp : ∀ {q : Nat} {t : TypeId} {cs : Array Value}, q < B → Blk wq q t cs → Blk w4 q t cs := fun hq hb => by
    have h0 := hb.below hW
    exact (hg.block _ h0.lt (fun e => by have := hu _ e.symm; omega)).trans h0
  have hx := kp (by omega) h.x
  have hgB : B ≤ g := (World.ownsRow.lt ho g rfl).1
  have ne : ∀ {q : Nat} {t : TypeId} {cs : Array Value}, q ≠ Y + 1 + 1 → Blk w4 q t cs → Blk (w4.setCell ⟨Y + 1 + 1, 2, none⟩ (.slice (some ⟨g, 0, none⟩) (j + 1) cap)) q t cs := fun hq hb => (Below.heap_setCell _ _ _ _ hq).trans hb
  refine ⟨⟨ne (by omega) (kp (by omega) h.e), ne (by omega) (kp (by omega) h.z), ?_, ?_, ?_⟩, hx.free 2, by rw [hx.cell]; rfl⟩
  · have := heap_setCell_same w4 (Y + 1 + 1) 2 #[.int .i64 op, .string kd, u, .int .i64 lo, .int .i64 hi, kv] 51 (.slice (some ⟨g, 0, none⟩) (j + 1) cap) hx
    exact this
  · have e : L.take (j + 1) = L.take j ++ [L[j]] := by rw [List.take_succ_eq_append_getElem hj]
    rw [e, cellsC_one]
    exact ownsRow_setCell_other ho (by simp [Value.ownBlock]; omega) _
  · have b1 : Below Y w W0 := h.b.trans (hW.mono (Nat.le_of_lt h.e.lt))
    have b2 : Below Y w w4 := b1.trans ⟨hg.os, hg.tape, hg.output, hg.size, fun q hq => hg.block q (Nat.lt_of_lt_of_le (Nat.lt_trans hq h.e.lt) hW.size) (fun e => by have := hu q e.symm; omega)⟩
    exact b2.setCell (p := ⟨Y + 1 + 1, 2, none⟩) (by show Y ≤ Y + 1 + 1; omega) _
theorem NdI.drew {w wq : World} {Y B : Nat} {op lo hi : Int} {kd : ByteArray} {kv pv : Value} {L : List Cnd} {j : Nat} {u : Value} (h : NdI w wq Y B op kd lo hi kv pv L j u) : NdI w wq.drew Y B op kd lo hi kv pv L j u :=
  ⟨h.e, h.z, h.x, World.ownsRow.kept h.o (row := none) ⟨rfl, rfl, rfl, Nat.le_refl _, fun _ _ _ => rfl⟩ (by cases u.ownBlock <;> simp), h.b.drew⟩
/-- what lies in the answer's block at the end -/
theorem node_end {w wr : World} {Y : Nat} {op lo hi : Int} {kd : ByteArray} {kv pv : Value} {L : List Cnd} {ua : Option Addr} {uc j : Nat} (h : NdI w wr Y (Y + 3) op kd lo hi kv pv L j (.slice ua j uc)) (hj : j = L.length) :
    ∃ W5, W5 = (((((wr.setCell ⟨Y + 1, 0, none⟩ (.int .i64 op)).setCell ⟨Y + 1, 1, none⟩ (.string kd)).setCell ⟨Y + 1, 2, none⟩ (.slice ua j uc)).setCell ⟨Y + 1, 3, none⟩ (.int .i64 lo)).setCell ⟨Y + 1, 4, none⟩ (.int .i64 hi)).setCell ⟨Y + 1, 5, none⟩ kv ∧ Blk W5 (Y + 1) 51 #[.int .i64 op, .string kd, .slice ua j uc, .int .i64 lo, .int .i64 hi, kv] ∧ Below Y w W5 ∧ Cnds W5 ua L := by
  have st : ∀ {W : World} {cs : Array Value} (i : Nat) (v : Value), Blk W (Y + 1) 51 cs → Blk (W.setCell ⟨Y + 1, i, none⟩ v) (Y + 1) 51 (cs.setIfInBounds i v) := fun i v hb => heap_setCell_same _ _ i _ 51 v hb
  have so : ∀ {W : World} (i : Nat) (v : Value), W.ownsRow (Y + 3) 82 6 (.slice ua j uc) j (cellsC (L.take j)) → (W.setCell ⟨Y + 1, i, none⟩ v).ownsRow (Y + 3) 82 6 (.slice ua j uc) j (cellsC (L.take j)) := fun i v ho => ownsRow_setCell_other ho (fun e => by have := (World.ownsRow.lt ho (Y + 1) (by first | exact e | exact e.symm)).1; omega) _
  have sb : ∀ {W : World} (i : Nat) (v : Value), Below Y w W → Below Y w (W.setCell ⟨Y + 1, i, none⟩ v) := fun i v hb => hb.setCell (p := ⟨Y + 1, i, none⟩) (by show Y ≤ Y + 1; omega) _
  have ho := so 5 kv (so 4 (.int .i64 hi) (so 3 (.int .i64 lo) (so 2 (.slice ua j uc) (so 1 (.string kd) (so 0 (.int .i64 op) h.o)))))
  refine ⟨_, rfl, st 5 _ (st 4 _ (st 3 _ (st 2 _ (st 1 _ (st 0 _ h.z))))), sb 5 _ (sb 4 _ (sb 3 _ (sb 2 _ (sb 1 _ (sb 0 _ h.b))))), ?_⟩
  rw [hj, List.take_of_length_le (Nat.le_refl _), ← hj] at ho
  rcases ho.2 with ⟨e, e0⟩ | ⟨g, cap, cur, e, _⟩
  · intro p hp; omega
  · cases e
    exact cnds_own hj ho
/-- the world ahead of the loop -/
theorem node_start (w : World) (op lo hi : Int) (kd : ByteArray) (kv pv : Value) (L : List Cnd) : ∃ w3, w3 = ((w.alloc (.cells #[.int .i64 op, .string kd, pv, .int .i64 lo, .int .i64 hi, kv] 43)).alloc (.cells #[.int .i64 0, .string ⟨#[]⟩, .slice none 0 0, .int .i64 0, .int .i64 0, .slice none 0 0] 51)).alloc (.cells #[.int .i64 op, .string kd, .slice none 0 0, .int .i64 lo, .int .i64 hi, kv] 51) ∧
      NdI w w3 w.heap.size (w.heap.size + 3) op kd lo hi kv pv L 0 (.slice none 0 0) ∧ Below w.heap.size w w3 ∧ w3.heap.size = w.heap.size + 3 := by
  obtain ⟨k0, b0, s0, -⟩ := alloc_blk (Below.refl w.heap.size w) (Nat.le_refl _) #[.int .i64 op, .string kd, pv, .int .i64 lo, .int .i64 hi, kv] 43
  generalize w.alloc (.cells #[.int .i64 op, .string kd, pv, .int .i64 lo, .int .i64 hi, kv] 43) = W0 at *
  obtain ⟨k1, b1, s1, f1⟩ := alloc_blk b0 (by omega) #[.int .i64 0, .string ⟨#[]⟩, .slice none 0 0, .int .i64 0, .int .i64 0, .slice none 0 0] 51
  have k0 := f1 _ _ _ k0
  clear f1
  generalize W0.alloc (.cells #[.int .i64 0, .string ⟨#[]⟩, .slice none 0 0, .int .i64 0, .int .i64 0, .slice none 0 0] 51) = W1 at *
  obtain ⟨k2, b2, s2, f2⟩ := alloc_blk b1 (by omega) #[.int .i64 op, .string kd, .slice none 0 0, .int .i64 lo, .int .i64 hi, kv] 51
  have k0 := f2 _ _ _ k0
  have k1 := f2 _ _ _ k1
  clear f2
  rw [s0] at k1 s1
  rw [s1] at k2 s2
  exact ⟨_, rfl, ⟨k0, k1, k2, World.ownsRow_nil _ _ _ _, b2⟩, b2, s2⟩
end Go.Proofs.YtkajadkmdcalmaaGreatDoor
/-
  THE WALKS OF the document's own Whole, of real.Part and of the document's own.
-/
namespace Go.Proofs.YtkajadkmdcalmaaGreatDoor
open Go.RowKit
theorem ret_ub {a b : Int} {c d : Bool} (h : a = b) (h' : c = d) : Ending.returned (.tuple #[.int .u64 a, .bool c]) = .returned (.tuple #[.int .u64 b, .bool d]) := by rw [h, h']
theorem rung_int {m : Nat} : ((m.log2 : Int) + 1022 + 0) * 4503599627370496 + (keptM m false : Nat) = (rung m : Nat) := by
  rw [keptM_false]; unfold rung; omega
theorem exact_big {m : Nat} {A : Int} {b : Bool} (h : 53 < m.log2 + 1) (g : A = ((m % 2 ^ (m.log2 - 52) : Nat) : Int)) (x : b = (decide (m.log2 ≤ 52) || decide (m % 2 ^ (m.log2 - 52) = 0))) : (decide ((m.log2 : Int) + 1 ≤ 53) || A == 0) = b := by
  rw [x, g, decide_eq_false (show ¬ m.log2 ≤ 52 by omega), decide_eq_false (show ¬ (m.log2 : Int) + 1 ≤ 53 by omega)]
  apply Bool.eq_iff_iff.2
  generalize m % 2 ^ (m.log2 - 52) = z
  simp
set_option maxHeartbeats 1000000 in
theorem rwhole_any (n : Int) (h0 : -9223372036854775808 ≤ n) (h1 : n ≤ 9223372036854775807) (w : World) : Calls Tryz.prog 98 #[.int .i64 n] w fun r w' => r = .returned (.tuple #[.int .u64 (wholeB n : Nat), .bool (isExact n.natAbs)]) ∧ w = w' := by
  by_cases hz : n = 0
  · subst hz
    go_enter Tryz.func98, Tryz.ntmps98
    go_wp2_with fail
    refine (magnitude_any 0 (by decide) (by decide) _).mono ?_
    rintro r w1 ⟨rfl, rfl⟩
    go_wp2_with fail
    refine (rounded_zero 0 false _).mono ?_
    rintro r w1 ⟨rfl, rfl⟩
    go_wp2_with fail
    refine (len_any 0 (by decide) _).mono ?_
    rintro r w1 ⟨rfl, rfl⟩
    go_wp2_with fail
    go_ret2
    exact ⟨ret_ub (by decide +kernel) (by decide +kernel), rfl⟩
  · have hm : n.natAbs ≠ 0 := by omega
    have hl : n.natAbs < 18446744073709551616 := by omega
    have hlog : n.natAbs.log2 ≤ 63 := (rung_bounds hm (by omega)).1
    have hrung := (rung_bounds hm (by omega)).2.1
    have M := magnitude_any n h0 h1
    have R : ∀ w, Calls Tryz.prog 114 #[.int .u64 (n.natAbs : Nat), .int .i64 0, .bool false] w fun r w' => r = .returned (.int .u64 (rung n.natAbs : Nat)) ∧ w = w' := by
      intro w
      refine (rounded_any n.natAbs 0 false hl w hm (by omega) (by omega)).mono ?_
      rintro r w1 ⟨rfl, rfl⟩
      exact ⟨ret_u64 rung_int, rfl⟩
    have L := len_any n.natAbs hl
    unfold lenN at L
    rw [if_neg hm] at L
    have B := wholeB_form hz h0 h1
    have X : Hid (isExact n.natAbs = (decide (n.natAbs.log2 ≤ 52) || decide (n.natAbs % 2 ^ (n.natAbs.log2 - 52) = 0))) := Lib.hid rfl
    generalize n.natAbs = m at *
    by_cases hn : n < 0
    · have B1 := Lib.hid (show ((rung m : Nat) : Int) + 9223372036854775808 = (wholeB n : Nat) by rw [B]; simp [hn]; omega)
      clear B
      by_cases hs : m.log2 + 1 ≤ 53
      · go_enter Tryz.func98, Tryz.ntmps98
        go_wp2_with fail
        refine (M _).mono ?_
        rintro r w1 ⟨rfl, rfl⟩
        go_wp2_with fail
        refine (R _).mono ?_
        rintro r w1 ⟨rfl, rfl⟩
        go_wp2_with fail
        refine (L _).mono ?_
        rintro r w1 ⟨rfl, rfl⟩
        go_wp2_with fail
        go_ret2
        exact ⟨ret_ub B1.out (by rw [X.out]; simp; omega), rfl⟩
      · have hs' : 53 < m.log2 + 1 := by omega
        have G := Lib.hid (big_rest hm hl hs')
        have HS := Lib.hid hs'
        clear hs
        go_enter Tryz.func98, Tryz.ntmps98
        go_wp2_with fail
        refine (M _).mono ?_
        rintro r w1 ⟨rfl, rfl⟩
        go_wp2_with fail
        refine (R _).mono ?_
        rintro r w1 ⟨rfl, rfl⟩
        go_wp2_with fail
        refine (L _).mono ?_
        rintro r w1 ⟨rfl, rfl⟩
        go_wp2_with fail
        go_ret2
        exact ⟨ret_ub B1.out (exact_big HS.out G.out X.out), rfl⟩
    · have B1 := Lib.hid (show ((rung m : Nat) : Int) = (wholeB n : Nat) by rw [B]; simp [hn])
      have hn' : 0 ≤ n := by omega
      clear B hn
      by_cases hs : m.log2 + 1 ≤ 53
      · go_enter Tryz.func98, Tryz.ntmps98
        go_wp2_with fail
        refine (M _).mono ?_
        rintro r w1 ⟨rfl, rfl⟩
        go_wp2_with fail
        refine (R _).mono ?_
        rintro r w1 ⟨rfl, rfl⟩
        go_wp2_with fail
        refine (L _).mono ?_
        rintro r w1 ⟨rfl, rfl⟩
        go_wp2_with fail
        go_ret2
        exact ⟨ret_ub B1.out (by rw [X.out]; simp; omega), rfl⟩
      · have hs' : 53 < m.log2 + 1 := by omega
        have G := Lib.hid (big_rest hm hl hs')
        have HS := Lib.hid hs'
        clear hs
        go_enter Tryz.func98, Tryz.ntmps98
        go_wp2_with fail
        refine (M _).mono ?_
        rintro r w1 ⟨rfl, rfl⟩
        go_wp2_with fail
        refine (R _).mono ?_
        rintro r w1 ⟨rfl, rfl⟩
        go_wp2_with fail
        refine (L _).mono ?_
        rintro r w1 ⟨rfl, rfl⟩
        go_wp2_with fail
        go_ret2
        exact ⟨ret_ub B1.out (exact_big HS.out G.out X.out), rfl⟩
end Go.Proofs.YtkajadkmdcalmaaGreatDoor
/-
  THE DOCUMENT's OWN less AND more.
-/
namespace Go.Proofs.YtkajadkmdcalmaaGreatDoor
open Go.RowKit
/-- a whole number ahead of a real one, behind it -/
def lsB (n : Int) (f : Nat) : Bool := ltP (wk n, n - wholeV n) (rkey f, 0)
def mrB (n : Int) (f : Nat) : Bool := ltP (rkey f, 0) (wk n, n - wholeV n)
structure Tie (n : Int) (f : Nat) : Prop where
  e : f = wholeB n
  l : lsB n f = decide (n < wholeV n)
  m : mrB n f = decide (wholeV n < n)
  ne : n ≠ wholeV n
theorem tie_of {n : Int} {f : Nat} (h0 : -9223372036854775808 ≤ n) (h1 : n ≤ 9223372036854775807) (hf : f < 18446744073709551616) (ht : wk n = rkey f) (hx : isExact n.natAbs = false) : Tie n f := by
  have lw := wholeB_lt h0 h1
  have E := exact_whole h0 h1
  have hne : wholeV n ≠ n := fun e => by rw [E.2 e] at hx; cases hx
  have n0 : n ≠ 0 := by rintro rfl; exact hne (by decide +kernel)
  refine ⟨(rkey_inj lw hf ht (wk_ne n0 h0 h1)).symm, ?_, ?_, fun e => hne e.symm⟩
  · apply Bool.eq_iff_iff.2
    unfold lsB
    rw [ltP_iff]
    simp only [decide_eq_true_eq]
    omega
  · apply Bool.eq_iff_iff.2
    unfold mrB
    rw [ltP_iff]
    simp only [decide_eq_true_eq]
    omega
theorem geq_lt {n : Int} (h0 : -9223372036854775808 ≤ n) (h1 : n ≤ 9223372036854775807) (hv : wholeV n < 9223372036854775808) :
    (FloatKind.f64.format.order (wholeB n) 4890909195324358656 == some .gt) = false ∧ (FloatKind.f64.format.order (wholeB n) 4890909195324358656 == some .eq) = false := by
  have T := whole_test n h0 h1
  rw [decide_eq_true hv] at T
  cases ho : FloatKind.f64.format.order (wholeB n) 4890909195324358656 with
  | none => exact ⟨rfl, rfl⟩
  | some o => rw [ho] at T; cases o <;> first | (exact ⟨rfl, rfl⟩) | (exact absurd T (by decide))
theorem geq_of {n : Int} (h0 : -9223372036854775808 ≤ n) (h1 : n ≤ 9223372036854775807) (b : Bool) (hv : decide (wholeV n < 9223372036854775808) = b) :
    (FloatKind.f64.format.order (wholeB n) 4890909195324358656 == some .gt) = (!b && (FloatKind.f64.format.order (wholeB n) 4890909195324358656 == some .gt)) ∧
    (FloatKind.f64.format.order (wholeB n) 4890909195324358656 == some .eq || FloatKind.f64.format.order (wholeB n) 4890909195324358656 == some .gt) = !b ∧
    (FloatKind.f64.format.order (wholeB n) 4890909195324358656 == some .gt || FloatKind.f64.format.order (wholeB n) 4890909195324358656 == some .eq) = !b := by
  have T := whole_test n h0 h1
  have OO := ord_order (wholeB n) 4890909195324358656 (wholeB_lt h0 h1) (by decide)
  rw [ord_some (wholeB_nan h0 h1) (by decide)] at OO
  rw [hv] at T
  rw [OO] at T ⊢
  cases b <;> cases ho : compare (rkey (wholeB n)) (rkey 4890909195324358656) <;> rw [ho] at T <;> first | (exact absurd T (by decide)) | decide
set_option maxHeartbeats 1000000 in
theorem rless_any (n : Int) (f : Nat) (h0 : -9223372036854775808 ≤ n) (h1 : n ≤ 9223372036854775807) (hf : f < 18446744073709551616) (w : World) :
    Calls Tryz.prog 81 #[.int .i64 n, .float .f64 f] w fun e w' => e = .returned (.bool (lsB n f)) ∧ w = w' := by
  have A := rwhole_any n h0 h1
  have lw := wholeB_lt h0 h1
  have hb := run_bits f
  have GX := below_any (wholeB n) f lw hf
  have XG := below_any f (wholeB n) hf lw
  change ∀ w, Calls Tryz.prog 80 #[.int .u64 (wholeB n : Nat), .int .u64 (f : Nat)] w fun r w' => r = .returned (.bool (decide (wk n < rkey f))) ∧ w = w' at GX
  change ∀ w, Calls Tryz.prog 80 #[.int .u64 (f : Nat), .int .u64 (wholeB n : Nat)] w fun r w' => r = .returned (.bool (decide (rkey f < wk n))) ∧ w = w' at XG
  by_cases lt : wk n < rkey f
  · have R := Lib.hid (show true = lsB n f by
      have e1 : ltP (wk n, n - wholeV n) (rkey f, 0) = true := (ltP_iff _ _).2 (.inl lt)
      have e2 : ltP (rkey f, 0) (wk n, n - wholeV n) = false := (ltP_not _ _).2 (by simp only; omega)
      unfold lsB
      exact e1.symm)
    have d1 : decide (wk n < rkey f) = true := by simp only [decide_eq_true_eq]; omega
    have d2 : decide (rkey f < wk n) = false := by simp only [decide_eq_false_iff_not]; omega
    rw [d1] at GX
    rw [d2] at XG
    clear d1 d2 lt
    generalize wholeB n = x at *
    generalize isExact n.natAbs = b at *
    go_enter Tryz.func81, Tryz.ntmps81
    go_wp2_with fail
    refine (A _).mono ?_
    rintro e w1 ⟨rfl, rfl⟩
    go_wp2_with fail
    refine (GX _).mono ?_
    rintro e w1 ⟨rfl, rfl⟩
    go_wp2_with fail
    go_ret
    exact ⟨ret_bool R.out, rfl⟩
  by_cases gt : rkey f < wk n
  · have R := Lib.hid (show false = lsB n f by
      have e1 : ltP (wk n, n - wholeV n) (rkey f, 0) = false := (ltP_not _ _).2 (by simp only; omega)
      have e2 : ltP (rkey f, 0) (wk n, n - wholeV n) = true := (ltP_iff _ _).2 (.inl gt)
      unfold lsB
      exact e1.symm)
    have d1 : decide (wk n < rkey f) = false := by simp only [decide_eq_false_iff_not]; omega
    have d2 : decide (rkey f < wk n) = true := by simp only [decide_eq_true_eq]; omega
    rw [d1] at GX
    rw [d2] at XG
    clear d1 d2 gt
    generalize wholeB n = x at *
    cases hxx : isExact n.natAbs
    all_goals rw [hxx] at A
    all_goals clear hxx
    · go_enter Tryz.func81, Tryz.ntmps81
      go_wp2_with fail
      refine (A _).mono ?_
      rintro e w1 ⟨rfl, rfl⟩
      go_wp2_with fail
      refine (GX _).mono ?_
      rintro e w1 ⟨rfl, rfl⟩
      go_wp2_with fail
      refine (XG _).mono ?_
      rintro e w1 ⟨rfl, rfl⟩
      go_wp2_with fail
      go_ret
      exact ⟨ret_bool R.out, rfl⟩
    · go_enter Tryz.func81, Tryz.ntmps81
      go_wp2_with fail
      refine (A _).mono ?_
      rintro e w1 ⟨rfl, rfl⟩
      go_wp2_with fail
      refine (GX _).mono ?_
      rintro e w1 ⟨rfl, rfl⟩
      go_wp2_with fail
      go_ret
      exact ⟨ret_bool R.out, rfl⟩
  have ht : wk n = rkey f := by omega
  have d1 : decide (wk n < rkey f) = false := by simp only [decide_eq_false_iff_not]; omega
  have d2 : decide (rkey f < wk n) = false := by simp only [decide_eq_false_iff_not]; omega
  rw [d1] at GX
  rw [d2] at XG
  clear d1 d2 lt gt
  cases hx : isExact n.natAbs
  · have TI := tie_of h0 h1 hf ht hx
    rw [hx] at A
    have TIh := Lib.hid TI
    obtain rfl := TI.e
    clear TI ht
    by_cases hv : wholeV n < 9223372036854775808
    · obtain ⟨G1, G2⟩ := geq_lt h0 h1 hv
      have C : ∀ w : World, (convert 70 3 (.float .f64 (wholeB n))).run Tryz.prog w = .ok (.int .i64 (wholeV n)) w := fun w => run_convert_float_int w 70 3 .f64 .i64 _ _ (by kernel_rfl) Tryz.underlying3 (whole_back n h0 h1 hv)
      have R := Lib.hid (show decide (n < wholeV n) = lsB n (wholeB n) from (TIh.out.l).symm)
      clear TIh hx hv
      generalize hxx : wholeB n = x at *
      generalize hvv : wholeV n = v at *
      clear hxx hvv
      go_enter Tryz.func81, Tryz.ntmps81
      go_wp2_with fail
      refine (A _).mono ?_
      rintro e w1 ⟨rfl, rfl⟩
      go_wp2_with fail
      refine (GX _).mono ?_
      rintro e w1 ⟨rfl, rfl⟩
      go_wp2_with fail
      refine (XG _).mono ?_
      rintro e w1 ⟨rfl, rfl⟩
      go_wp2_with fail
      go_ret
      exact ⟨ret_bool (by rw [← R.out]; try simp), rfl⟩
    · obtain ⟨G1, G2, G3⟩ := geq_of h0 h1 false (decide_eq_false hv)
      have R := Lib.hid (show true = lsB n (wholeB n) by
        rw [TIh.out.l]; symm; simp only [decide_eq_true_eq]; omega)
      clear TIh hx hv G1
      simp only [Bool.not_false] at G2 G3
      generalize hxx : wholeB n = x at *
      clear hxx
      go_enter Tryz.func81, Tryz.ntmps81
      go_wp2_with fail
      refine (A _).mono ?_
      rintro e w1 ⟨rfl, rfl⟩
      go_wp2_with fail
      refine (GX _).mono ?_
      rintro e w1 ⟨rfl, rfl⟩
      go_wp2_with fail
      refine (XG _).mono ?_
      rintro e w1 ⟨rfl, rfl⟩
      go_wp2_with fail
      go_ret
      exact ⟨ret_bool R.out, rfl⟩
  · have R := Lib.hid (show false = lsB n f by
      have e := (exact_whole h0 h1).1 hx
      unfold lsB
      symm
      rw [ltP_not]
      simp only
      omega)
    rw [hx] at A
    clear ht hx
    generalize wholeB n = x at *
    go_enter Tryz.func81, Tryz.ntmps81
    go_wp2_with fail
    refine (A _).mono ?_
    rintro e w1 ⟨rfl, rfl⟩
    go_wp2_with fail
    refine (GX _).mono ?_
    rintro e w1 ⟨rfl, rfl⟩
    go_wp2_with fail
    go_ret
    exact ⟨ret_bool R.out, rfl⟩
set_option maxHeartbeats 1000000 in
theorem rmore_any (n : Int) (f : Nat) (h0 : -9223372036854775808 ≤ n) (h1 : n ≤ 9223372036854775807) (hf : f < 18446744073709551616) (w : World) :
    Calls Tryz.prog 82 #[.int .i64 n, .float .f64 f] w fun e w' => e = .returned (.bool (mrB n f)) ∧ w = w' := by
  have A := rwhole_any n h0 h1
  have lw := wholeB_lt h0 h1
  have hb := run_bits f
  have GX := below_any (wholeB n) f lw hf
  have XG := below_any f (wholeB n) hf lw
  change ∀ w, Calls Tryz.prog 80 #[.int .u64 (wholeB n : Nat), .int .u64 (f : Nat)] w fun r w' => r = .returned (.bool (decide (wk n < rkey f))) ∧ w = w' at GX
  change ∀ w, Calls Tryz.prog 80 #[.int .u64 (f : Nat), .int .u64 (wholeB n : Nat)] w fun r w' => r = .returned (.bool (decide (rkey f < wk n))) ∧ w = w' at XG
  by_cases lt : wk n < rkey f
  · have R := Lib.hid (show false = mrB n f by
      have e1 : ltP (wk n, n - wholeV n) (rkey f, 0) = true := (ltP_iff _ _).2 (.inl lt)
      have e2 : ltP (rkey f, 0) (wk n, n - wholeV n) = false := (ltP_not _ _).2 (by simp only; omega)
      unfold mrB
      exact e2.symm)
    have d1 : decide (wk n < rkey f) = true := by simp only [decide_eq_true_eq]; omega
    have d2 : decide (rkey f < wk n) = false := by simp only [decide_eq_false_iff_not]; omega
    rw [d1] at GX
    rw [d2] at XG
    clear d1 d2 lt
    generalize wholeB n = x at *
    cases hxx : isExact n.natAbs
    all_goals rw [hxx] at A
    all_goals clear hxx
    · go_enter Tryz.func82, Tryz.ntmps82
      go_wp2_with fail
      refine (A _).mono ?_
      rintro e w1 ⟨rfl, rfl⟩
      go_wp2_with fail
      refine (XG _).mono ?_
      rintro e w1 ⟨rfl, rfl⟩
      go_wp2_with fail
      refine (GX _).mono ?_
      rintro e w1 ⟨rfl, rfl⟩
      go_wp2_with fail
      go_ret
      exact ⟨ret_bool R.out, rfl⟩
    · go_enter Tryz.func82, Tryz.ntmps82
      go_wp2_with fail
      refine (A _).mono ?_
      rintro e w1 ⟨rfl, rfl⟩
      go_wp2_with fail
      refine (XG _).mono ?_
      rintro e w1 ⟨rfl, rfl⟩
      go_wp2_with fail
      go_ret
      exact ⟨ret_bool R.out, rfl⟩
  by_cases gt : rkey f < wk n
  · have R := Lib.hid (show true = mrB n f by
      have e1 : ltP (wk n, n - wholeV n) (rkey f, 0) = false := (ltP_not _ _).2 (by simp only; omega)
      have e2 : ltP (rkey f, 0) (wk n, n - wholeV n) = true := (ltP_iff _ _).2 (.inl gt)
      unfold mrB
      exact e2.symm)
    have d1 : decide (wk n < rkey f) = false := by simp only [decide_eq_false_iff_not]; omega
    have d2 : decide (rkey f < wk n) = true := by simp only [decide_eq_true_eq]; omega
    rw [d1] at GX
    rw [d2] at XG
    clear d1 d2 gt
    generalize wholeB n = x at *
    generalize isExact n.natAbs = b at *
    go_enter Tryz.func82, Tryz.ntmps82
    go_wp2_with fail
    refine (A _).mono ?_
    rintro e w1 ⟨rfl, rfl⟩
    go_wp2_with fail
    refine (XG _).mono ?_
    rintro e w1 ⟨rfl, rfl⟩
    go_wp2_with fail
    go_ret
    exact ⟨ret_bool R.out, rfl⟩
  have ht : wk n = rkey f := by omega
  have d1 : decide (wk n < rkey f) = false := by simp only [decide_eq_false_iff_not]; omega
  have d2 : decide (rkey f < wk n) = false := by simp only [decide_eq_false_iff_not]; omega
  rw [d1] at GX
  rw [d2] at XG
  clear d1 d2 lt gt
  cases hx : isExact n.natAbs
  · have TI := tie_of h0 h1 hf ht hx
    rw [hx] at A
    have TIh := Lib.hid TI
    obtain rfl := TI.e
    clear TI ht
    by_cases hv : wholeV n < 9223372036854775808
    · obtain ⟨G1, G2⟩ := geq_lt h0 h1 hv
      have C : ∀ w : World, (convert 70 3 (.float .f64 (wholeB n))).run Tryz.prog w = .ok (.int .i64 (wholeV n)) w := fun w => run_convert_float_int w 70 3 .f64 .i64 _ _ (by kernel_rfl) Tryz.underlying3 (whole_back n h0 h1 hv)
      have R := Lib.hid (show decide (wholeV n < n) = mrB n (wholeB n) from (TIh.out.m).symm)
      clear TIh hx hv
      generalize hxx : wholeB n = x at *
      generalize hvv : wholeV n = v at *
      clear hxx hvv
      go_enter Tryz.func82, Tryz.ntmps82
      go_wp2_with fail
      refine (A _).mono ?_
      rintro e w1 ⟨rfl, rfl⟩
      go_wp2_with fail
      refine (XG _).mono ?_
      rintro e w1 ⟨rfl, rfl⟩
      go_wp2_with fail
      refine (GX _).mono ?_
      rintro e w1 ⟨rfl, rfl⟩
      go_wp2_with fail
      go_ret
      exact ⟨ret_bool (by rw [← R.out]; try simp), rfl⟩
    · obtain ⟨G1, G2, G3⟩ := geq_of h0 h1 false (decide_eq_false hv)
      have R := Lib.hid (show false = mrB n (wholeB n) by
        rw [TIh.out.m]; symm; simp only [decide_eq_false_iff_not]; omega)
      clear TIh hx hv G1
      simp only [Bool.not_false] at G2 G3
      generalize hxx : wholeB n = x at *
      clear hxx
      go_enter Tryz.func82, Tryz.ntmps82
      go_wp2_with fail
      refine (A _).mono ?_
      rintro e w1 ⟨rfl, rfl⟩
      go_wp2_with fail
      refine (XG _).mono ?_
      rintro e w1 ⟨rfl, rfl⟩
      go_wp2_with fail
      refine (GX _).mono ?_
      rintro e w1 ⟨rfl, rfl⟩
      go_wp2_with fail
      go_ret
      exact ⟨ret_bool R.out, rfl⟩
  · have R := Lib.hid (show false = mrB n f by
      have e := (exact_whole h0 h1).1 hx
      unfold mrB
      symm
      rw [ltP_not]
      simp only
      omega)
    rw [hx] at A
    clear ht hx
    generalize wholeB n = x at *
    go_enter Tryz.func82, Tryz.ntmps82
    go_wp2_with fail
    refine (A _).mono ?_
    rintro e w1 ⟨rfl, rfl⟩
    go_wp2_with fail
    refine (XG _).mono ?_
    rintro e w1 ⟨rfl, rfl⟩
    go_wp2_with fail
    go_ret
    exact ⟨ret_bool R.out, rfl⟩
end Go.Proofs.YtkajadkmdcalmaaGreatDoor
