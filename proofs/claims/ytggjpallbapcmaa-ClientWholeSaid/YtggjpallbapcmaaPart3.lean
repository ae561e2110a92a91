/-
  WHAT THE ROWS REST ON, part 3: Frame Bma Bcl Evm Tel Chk1.
-/
import Derived.Test.YtggjpallbapcmaaRows
import Derived.WalkKit
import Derived.ProofKit
import Derived.OpenShut
import Derived.ShutString
import Derived.SizedLaws
import Derived.Laws.Cover2
import Derived.WalkSmall
import Derived.SliceStrings
import Derived.Lib.Hide
import Derived.Lib.QuietBelow
import Derived.Deep.AppendLies
import Derived.Deep.RegionLaw
import Derived.Laws.OwnMore
import Derived.BigQuiet
import Derived.Handy
import Derived.Deep.QuietTactic
import Derived.Test.YtggjpallbapcmaaPart2
/-
  FOR THE ROWS: whatever the arguments' types: a law that answers true, and below whose heap's old end nothing has turned, leaves each argument as it read.
-/
namespace Go.Proofs.Ytggjpallbapcmaa
open Go.ChangeShapes Go.WideShapes Go.ChangeAt Go.RowKit
theorem own : ownKnob Try.prog.godebug = none := by kernel_rfl
theorem laidOut : laidOutB Try.prog = true := by kernel_rfl
section
variable {H : Type} {enc : TypeId × Value → H} {P : Program}
theorem trodAll_below (hl : laidOutB P = true) {W W' : World} (hb : Below W.heap.size W W') : ∀ (ts : List TypeId) (vs : List Value) (ds : List (DataW H)) (ps : List MemPlace),
    (∀ t ∈ ts, P.readableRec t = true ∧ t < P.types.size) → DataW.TrodAll enc P W 0 (fun _ => true) true ts vs ds ps → (∀ x ∈ ps, x.block < W.heap.size) →
    DataW.TrodAll enc P W' 0 (fun b => decide (b < W.heap.size)) true ts vs ds ps
  | [], vs, ds, ps, _, h, _ => by
    obtain ⟨rfl, rfl, rfl⟩ := trodAll_nil h
    exact trodAll_mk0
  | t :: ts, vs, ds, ps, hr, h, hlt => by
    obtain ⟨v, vs', d, ds', p, q, rfl, rfl, rfl, h0, h1⟩ := trodAll_cons h
    exact trodAll_cons_mk (Below.trod hl (hr t (by simp)).1 (hr t (by simp)).2 h0 hb (fun x hx => hlt x (by simp [hx])))
      (trodAll_below hl hb ts vs' ds' q (fun u hu => hr u (by simp [hu])) h1 (fun x hx => hlt x (by simp [hx])))
/-- the end of every law's row -/
theorem law_post {f : Func} {s : ChangeSpec} {tb : TypeId} {apart fresh handsOn : Bool} {W W' : World} {args : Array Value} {ds : List (DataW H)} {before pa : List MemPlace}
    (hl : laidOutB P = true) (hr : ∀ t ∈ f.params.toList, P.readableRec t = true ∧ t < P.types.size) (hv : s.vars = []) (ht : f.resultTypes = #[tb]) (hb : P.underlying tb = some .bool)
    (hfn : s.fn H (ds ++ []) = { results := [.lit (.bool true)], args := ds })
    (hW : DataW.Whole enc P f.params.toList s.vars apart W args.toList ds [] before)
    (hA : DataW.TrodAll enc P W 0 (fun _ => true) true f.params.toList args.toList ds pa)
    (hlt : ∀ x ∈ pa, x.block < W.heap.size) (hk : Below W.heap.size W W') :
    s.post enc P f apart fresh handsOn false W args (.bool true) W' := by
  refine ⟨ds, [], before, [], pa, [], hW, ?_, ?_, ?_, hk.frame _, fun h => by cases h⟩
  · rw [ht, hfn]
    exact trodAll_cons_mk (shut_bool hb _) trodAll_mk0
  · rw [hfn]
    exact trodAll_below hl hk _ _ _ _ hr hA hlt
  · rw [hv, hfn]
    rfl
end
end Go.Proofs.Ytggjpallbapcmaa
/-
  The book: numbers in memory; may (26).
-/
namespace Go.Proofs.Ytggjpallbapcmaa.Bk
open Go.RowKit
/-- numbers that can be read -/
def Nums (w : World) (a : Option Addr) (xs : List Int) : Prop := ∀ i (h : i < xs.length), ∃ g o, a = some ⟨g, o, none⟩ ∧ g < w.heap.size ∧ w.cell? ⟨g, o + i, none⟩ = some (.int .i64 xs[i])
theorem Nums.next {w w' : World} {a : Option Addr} {xs : List Int} (h : Nums w a xs) (hb : Below w.heap.size w w') : Nums w' a xs := fun i hi => by
  obtain ⟨g, o, e, hg, c⟩ := h i hi
  exact ⟨g, o, e, Nat.lt_of_lt_of_le hg hb.size, by rw [hb.cell (p := ⟨g, _, none⟩) hg]; exact c⟩
/-- they rise, from behind one on, and none is too great -/
def upB : Int → List Int → Bool
  | _, [] => true
  | z, p :: r => !(decide (p ≤ z) || decide (549755813888 < p)) && upB p r
/-- a match may be -/
def mayB (xs : List Int) : Bool := !(decide (xs.length < 1) || decide (16 < xs.length)) && upB (-1) xs
set_option maxHeartbeats 4000000 in
set_option maxRecDepth 100000 in
theorem may_any {w : World} {a : Option Addr} {xs : List Int} (c : Nat) (h : Nums w a xs) (hl : xs.length ≤ 9223372036854775807) : Calls Try.prog 63 #[.agg #[.slice a xs.length c]] w fun e w' => e = .returned (.bool (mayB xs)) ∧ Below w.heap.size w w' := by
  obtain ⟨W, hW⟩ : ∃ W, W = w.alloc (.cells #[.slice a xs.length c] 70) := ⟨_, rfl⟩
  have bW : Below w.heap.size w W := by rw [hW]; exact (Below.refl _ w).alloc (Nat.le_refl _) _
  have cW : W.cell? ⟨w.heap.size, 0, none⟩ = some (.slice a xs.length c) := by rw [hW, World.cell?_alloc_new]; rfl
  have NW := Lib.hid (h.next bW)
  have BW := Lib.hid bW
  have HW := Lib.hid hW
  have hlI : (xs.length : Int) ≤ 9223372036854775807 := by omega
  clear h hW bW
  obtain ⟨m, hm⟩ : ∃ m, m = mayB xs := ⟨_, rfl⟩
  have HM := Lib.hid hm
  rw [← hm]
  clear hm
  by_cases h1 : xs.length < 1
  · have h1I : (xs.length : Int) < 1 := by omega
    have h1B := decide_eq_true h1I
    have RH : m = false := by rw [HM.out]; unfold mayB; rw [decide_eq_true h1]; rfl
    subst RH
    go_enter Try.func63, Try.ntmps63
    go_wp2_with (rw [← HW.out])
    go_ret
    exact ⟨rfl, BW.out⟩
  have h1I : ¬ (xs.length : Int) < 1 := by omega
  have h1B := decide_eq_false h1I
  by_cases h2 : 16 < xs.length
  · have h2I : 16 < (xs.length : Int) := by omega
    have h2B := decide_eq_true h2I
    have RH : m = false := by rw [HM.out]; unfold mayB; rw [decide_eq_true h2, Bool.or_true]; rfl
    subst RH
    go_enter Try.func63, Try.ntmps63
    go_wp2_with (rw [← HW.out])
    go_ret
    exact ⟨rfl, BW.out⟩
  have h2I : ¬ 16 < (xs.length : Int) := by omega
  have h2B := decide_eq_false h2I
  have MU : Hid (m = upB (-1) xs) := Lib.hid (by rw [HM.out]; unfold mayB; rw [decide_eq_false h1, decide_eq_false h2]; rfl)
  clear HM
  go_enter Try.func63, Try.ntmps63
  go_wp2_with (rw [← HW.out])
  go_loopw [19, 3] (fun i z wq => ∃ (k : Nat) (y : Int), i = .int .i64 k ∧ z = .int .i64 y ∧ k ≤ xs.length ∧ wq = W ∧ Hid (m = upB y (xs.drop k))) (fun i _ _ => xs.length - (intOf i).toNat)
  case atStart => exact ⟨0, -1, rfl, rfl, Nat.zero_le _, rfl, MU⟩
  case round =>
    obtain ⟨k, y, rfl, rfl, hk, rfl, M⟩ := hrel
    by_cases hlt : k < xs.length
    rotate_left
    · have hkI : ¬ (k : Int) < (xs.length : Int) := by omega
      have hkB := decide_eq_false hkI
      have RH : m = true := by rw [M.out, List.drop_eq_nil_of_le (by omega)]; rfl
      subst RH
      go_wp2_with fail
      go_ret
      exact ⟨rfl, BW.out⟩
    have hkI : (k : Int) < (xs.length : Int) := by omega
    have hkB := decide_eq_true hkI
    obtain ⟨g, o, rfl, hg, ck⟩ := NW.out k hlt
    have M2 : m = (!(decide (xs[k] ≤ y) || decide (549755813888 < xs[k])) && upB xs[k] (xs.drop (k + 1))) := by rw [M.out, List.drop_eq_getElem_cons hlt]; rfl
    have HK := Lib.hid (show k + 1 ≤ xs.length by omega)
    clear M
    generalize xs[k] = p at *
    by_cases g1 : p ≤ y
    · have g1B := decide_eq_true g1
      have RH : m = false := by rw [M2, g1B]; rfl
      clear M2
      subst RH
      go_wp2_with fail
      go_ret
      exact ⟨rfl, BW.out⟩
    have g1B := decide_eq_false g1
    by_cases g2 : 549755813888 < p
    · have g2B := decide_eq_true g2
      have RH : m = false := by rw [M2, g2B, Bool.or_true]; rfl
      clear M2
      subst RH
      go_wp2_with fail
      go_ret
      exact ⟨rfl, BW.out⟩
    have g2B := decide_eq_false g2
    have M3 := Lib.hid (show m = upB p (xs.drop (k + 1)) by rw [M2, g1B, g2B]; rfl)
    clear M2
    go_wp2_with fail
    go_roundw
    case rel => exact ⟨k + 1, p, by go_num, rfl, HK.out, by trivial, M3⟩
    case measure => simp [intOf]; omega
end Go.Proofs.Ytggjpallbapcmaa.Bk
/-
  The book: slices.Clone of numbers (38).
-/
namespace Go.Proofs.Ytggjpallbapcmaa.Bk
open Go.RowKit
/-- numbers of the call's own -/
def OwnN (w : World) (B : Nat) (v : Value) (xs : List Int) : Prop := w.ownsRow B 3 1 v xs.length (xs.map (Value.int .i64))
theorem OwnN.nums {w : World} {B : Nat} {v : Value} {xs : List Int} (h : OwnN w B v xs) : ∃ a c, v = .slice a xs.length c ∧ Nums w a xs := by
  have h0 := h
  unfold OwnN at h0
  rcases h.2 with ⟨rfl, e⟩ | ⟨g, cap, cur, rfl, hb, hg, _⟩
  · have : xs = [] := List.length_eq_zero_iff.1 e
    subst this
    exact ⟨none, 0, rfl, fun i hi => by simp at hi⟩
  · refine ⟨_, _, rfl, fun p hp => ⟨g, 0, rfl, (Array.getElem?_eq_some_iff.1 hg).1, ?_⟩⟩
    rw [Nat.zero_add, h0.cellAt _ (by omega)]
    simp [hp]
/-- what a copy leaves -/
def Cln (w : World) (L : List Int) (e : Ending) (w' : World) : Prop := ∃ v', e = .returned v' ∧ OwnN w' w.heap.size v' L ∧ Below w.heap.size w w'
theorem info3 : (Try.prog.info? 3).map (fun i => (i.zero, i.size, i.bytes)) = some (some (.int .i64 0), 1, 8) := by kernel_rfl
set_option maxHeartbeats 4000000 in
set_option maxRecDepth 100000 in
theorem clone_any {w : World} {a : Option Addr} {L : List Int} (c : Nat) (h : Nums w a L) (hl : L.length ≤ 1000) : Calls Try.prog 79 #[.slice a L.length c] w (Cln w L) := by
  obtain ⟨i0, hi, hz0, hz1, hz2⟩ : ∃ i, Try.prog.info? 3 = some i ∧ i.zero = some (.int .i64 0) ∧ i.size = 1 ∧ i.bytes = 8 := by
    have h3 := info3
    cases e : Try.prog.info? 3 with
    | none => rw [e] at h3; cases h3
    | some i => rw [e] at h3; simp only [Option.map_some, Option.some.injEq, Prod.mk.injEq] at h3; exact ⟨i, rfl, h3.1, h3.2.1, h3.2.2⟩
  have q29 : ∀ (w : World) (a : Option Addr) (n c n' c' : Nat), (binOp .eql 55 (.slice a n c) (.slice none n' c')).run Try.prog w = .ok (.bool a.isNone) w := fun w a n c n' c' => Lib.run_eql_slice_nil w _ _ a n c n' c' Try.underlying55
  cases a with
  | none =>
    have hL : L = [] := by
      cases L with
      | nil => rfl
      | cons x r => obtain ⟨g, o, e, _⟩ := h 0 (by simp); cases e
    subst hL
    have FIN := Lib.hid (show Cln w [] (.returned (.slice none 0 0)) w from ⟨_, rfl, World.ownsRow_nil _ _ _ _, Below.refl _ _⟩)
    generalize Cln w [] = Q at *
    clear h
    go_enter Try.func79, Try.ntmps79
    go_wp2_with fail
    exact FIN.out
  | some ad =>
    obtain ⟨W1, hW1⟩ : ∃ W1, W1 = w.alloc (.cells #[] 3) := ⟨_, rfl⟩
    have O1 : W1.ownsRow w.heap.size 3 1 (.slice (some ⟨w.heap.size, 0, none⟩) 0 0) 0 [] := by rw [hW1]; exact World.ownsRow_made w #[] 0 (Nat.le_refl _) (Nat.zero_le _) rfl
    have b1 : Below w.heap.size w W1 := by rw [hW1]; exact (Below.refl _ w).alloc (Nat.le_refl _) _
    have G1 := h.next b1
    have N1 : ∀ j u, (L.map (Value.int .i64))[j]? = some u → W1.cell? (ad.add j) = some u := by
      intro j u hj
      rw [List.getElem?_map] at hj
      obtain ⟨x, hx, rfl⟩ := Option.map_eq_some_iff.1 hj
      obtain ⟨hjl, rfl⟩ := List.getElem?_eq_some_iff.1 hx
      obtain ⟨g, o, e, hg, ck⟩ := G1 j hjl
      cases e
      rw [show (⟨g, o, none⟩ : Addr).add j = ⟨g, o + j, none⟩ by unfold Addr.add; split <;> simp_all]
      exact ck
    have FIN : Hid (∀ v' w1, w1.ownsRow w.heap.size 3 1 v' (0 + L.length) ([] ++ L.map (Value.int .i64)) → W1.grownBy w1 (Value.slice (some ⟨w.heap.size, 0, none⟩) 0 0).ownBlock → Cln w L (.returned v') w1) := Lib.hid fun v' w1 ho hg => by
      rw [Nat.zero_add, List.nil_append] at ho
      exact ⟨v', rfl, ho, b1.trans ⟨hg.os, hg.tape, hg.output, hg.size, fun q hq => hg.block q (Nat.lt_of_lt_of_le hq b1.size) (fun e => absurd (show q = w.heap.size by simpa [Value.ownBlock] using e) (Nat.ne_of_lt hq))⟩⟩
    have hz : W1.heap.size = w.heap.size + 1 := by rw [hW1]; simp
    have HN := Lib.hid N1
    have HO := Lib.hid O1
    have HW := Lib.hid hW1
    have HL : Hid ((L.map (Value.int .i64)).length = L.length * 1) := Lib.hid (by simp)
    have H1 : Hid (∀ u ∈ L.map (Value.int .i64), u.oneCell' = true) := Lib.hid (fun u hu => by obtain ⟨x, _, rfl⟩ := List.mem_map.1 hu; rfl)
    have hl2 : (L.length : Int) ≤ 1000 := by omega
    clear h O1 b1 G1 N1 hW1
    generalize L.map (Value.int .i64) = cl at *
    generalize L.length = n at *
    generalize Cln w L = Q at *
    go_enter Try.func79, Try.ntmps79
    go_wp2_with (at_builtin; rw [← HW.out]; refine wpList_append_own _ rfl _ _ 55 rfl w.heap.size 3 i0 _ 1 8 Try.underlying55 hi hz0 hz1 hz2 rfl (by decide) _ 0 [] rfl HO.out ad n c cl rfl HL.out HN.out H1.out (by unfold maxLen; omega) (by omega) (by omega) ?_; intro v' w1 ho hg2 _)
    all_goals exact FIN.out v' w1 ho hg2
end Go.Proofs.Ytggjpallbapcmaa.Bk
/-
  FIELDS IN MEMORY; AN EVENT AS THE DOCUMENT HAS IT: Ref.
-/
namespace Go.Proofs.Ytggjpallbapcmaa
open Go.RowKit
structure Fld where
  nm : ByteArray
  v : Val
def encF (x : Fld) : List Value := [.string x.nm, .int .i64 x.v.k, .int .i64 x.v.n, .float .f64 x.v.f, .string x.v.s]
def cellsF (l : List Fld) : List Value := l.flatMap encF
theorem cellsF_one (l : List Fld) (x : Fld) : cellsF (l ++ [x]) = cellsF l ++ encF x := by unfold cellsF; rw [List.flatMap_append]; simp
theorem cellsF_get : ∀ {l : List Fld} {k : Nat} (h : k < l.length) (j : Nat), j < 5 → (cellsF l)[k * 5 + j]? = (encF l[k])[j]?
  | x :: l, 0, _, j, hj => by
    show (encF x ++ cellsF l)[0 * 5 + j]? = _
    rw [Nat.zero_mul, Nat.zero_add, List.getElem?_append_left (show j < (encF x).length from hj)]; rfl
  | x :: l, k + 1, h, j, hj => by
    have ih := cellsF_get (l := l) (k := k) (by simpa using h) j hj
    show (encF x ++ cellsF l)[(k + 1) * 5 + j]? = _
    have e : (encF x).length = 5 := rfl
    rw [List.getElem?_append_right (by omega), e, show (k + 1) * 5 + j - 5 = k * 5 + j by omega]
    exact ih
/-- fields in memory -/
def Flds (w : World) (a : Option Addr) (L : List Fld) : Prop := ∀ p (h : p < L.length), ∃ g o, a = some ⟨g, o, none⟩ ∧ g < w.heap.size ∧
  w.cell? ⟨g, o + p * 5, none⟩ = some (.string L[p].nm) ∧ w.cell? ⟨g, o + p * 5 + 1, none⟩ = some (.int .i64 L[p].v.k) ∧ w.cell? ⟨g, o + p * 5 + 2, none⟩ = some (.int .i64 L[p].v.n) ∧ w.cell? ⟨g, o + p * 5 + 3, none⟩ = some (.float .f64 L[p].v.f) ∧ w.cell? ⟨g, o + p * 5 + 4, none⟩ = some (.string L[p].v.s)
theorem Flds.below {w w' : World} {a : Option Addr} {L : List Fld} (h : Flds w a L) (hb : Below w.heap.size w w') : Flds w' a L := fun p hp => by
  obtain ⟨g, o, e, hl, c0, c1, c2, c3, c4⟩ := h p hp
  have q : ∀ {i : Nat} {v : Value}, w.cell? ⟨g, i, none⟩ = some v → w'.cell? ⟨g, i, none⟩ = some v := fun hc => by rw [hb.cell (p := ⟨g, _, none⟩) hl]; exact hc
  exact ⟨g, o, e, Nat.lt_of_lt_of_le hl hb.size, q c0, q c1, q c2, q c3, q c4⟩
theorem flds_own {w : World} {B t g cap n : Nat} {l : List Fld} (hn : n = l.length) (h : w.ownsRow B t 5 (.slice (some ⟨g, 0, none⟩) n cap) n (cellsF l)) : Flds w (some ⟨g, 0, none⟩) l := fun p hp => by
  have hg : g < w.heap.size := (World.ownsRow.lt h g rfl).2
  subst hn
  refine ⟨g, 0, rfl, hg, ?_, ?_, ?_, ?_, ?_⟩
  · have := cellsF_get hp 0 (by decide); rw [Nat.zero_add, World.ownsRow.cellAt h _ (by omega)]; simpa [encF] using this
  · have := cellsF_get hp 1 (by decide); rw [Nat.zero_add, World.ownsRow.cellAt h _ (by omega)]; simpa [encF] using this
  · have := cellsF_get hp 2 (by decide); rw [Nat.zero_add, World.ownsRow.cellAt h _ (by omega)]; simpa [encF] using this
  · have := cellsF_get hp 3 (by decide); rw [Nat.zero_add, World.ownsRow.cellAt h _ (by omega)]; simpa [encF] using this
  · have := cellsF_get hp 4 (by decide); rw [Nat.zero_add, World.ownsRow.cellAt h _ (by omega)]; simpa [encF] using this
theorem info62 : (Try.prog.info? 108).map (fun i => (i.zero, i.size, i.bytes)) = some (some (.agg #[.string ⟨#[]⟩, .int .i64 0, .int .i64 0, .float .f64 0, .string ⟨#[]⟩]), 5, 56) := by kernel_rfl
theorem fld_form {w : World} {B : Nat} {v : Value} {n : Nat} {xs : List Value} (h : w.ownsRow B 108 5 v n xs) : ∃ a c, v = .slice a n c := by
  rcases h.2 with ⟨rfl, e⟩ | ⟨g, cap, cur, rfl, _⟩
  · exact ⟨none, 0, by rw [e]⟩
  · exact ⟨_, _, rfl⟩
/-- a block that is known whole -/
def Blk (w : World) (g : Nat) (t : TypeId) (cs : Array Value) : Prop := w.heap[g]? = some (.cells cs t (0, 0))
theorem Blk.lt {w : World} {g : Nat} {t : TypeId} {cs : Array Value} (h : Blk w g t cs) : g < w.heap.size := (Array.getElem?_eq_some_iff.1 h).1
theorem Blk.cell {w : World} {g : Nat} {t : TypeId} {cs : Array Value} (h : Blk w g t cs) (i : Nat) : w.cell? ⟨g, i, none⟩ = cs[i]? := cell_of_row w g i cs t (0, 0) h
theorem Blk.free {w : World} {g : Nat} {t : TypeId} {cs : Array Value} (h : Blk w g t cs) (i : Nat) : w.frozen? ⟨g, i, none⟩ = false := by unfold Blk at h; simp [World.frozen?, h]
theorem Blk.below {w w' : World} {g : Nat} {t : TypeId} {cs : Array Value} (h : Blk w g t cs) (hb : Below w.heap.size w w') : Blk w' g t cs := (hb.block g h.lt).trans h
def evV (a b c : Int) (k : ByteArray) (s : Value) : Value := .agg #[.int .i64 a, .int .i64 b, .int .i64 c, .string k, s]
/-- what Ref answers -/
def Refd (w : World) (a b c : Int) (k : ByteArray) (L : List Fld) (e : Ending) (w' : World) : Prop := ∃ p cp, e = .returned (evV a b c k (.slice p (List.length L) cp)) ∧ Flds w' p L ∧ Below w.heap.size w w'
/-- the round of Ref's loop -/
structure RefI (w wq : World) (Y B : Nat) (a b c : Int) (k : ByteArray) (pv : Value) (L : List Fld) (j : Nat) (u : Value) : Prop where
  e : Blk wq Y 31 #[.int .i64 a, .int .i64 b, .int .i64 c, .string k, pv]
  z : Blk wq (Y + 1) 42 #[.int .i64 0, .int .i64 0, .int .i64 0, .string ⟨#[]⟩, .slice none 0 0]
  x : Blk wq (Y + 1 + 1) 42 #[.int .i64 a, .int .i64 b, .int .i64 c, .string k, u]
  o : wq.ownsRow B 108 5 u j (cellsF (L.take j))
  b : Below Y w wq
theorem RefI.push {w wq W0 w4 : World} {Y B : Nat} {a b c : Int} {k : ByteArray} {pv : Value} {L : List Fld} {j g cap : Nat} {u : Value} (h : RefI w wq Y B a b c k pv L j u) (hB : Y + 1 + 1 < B) (hj : j < L.length) (hW : Below wq.heap.size wq W0)
    (ho : w4.ownsRow B 108 5 (.slice (some ⟨g, 0, none⟩) (j + 1) cap) (j + 1) (cellsF (L.take j) ++ encF L[j])) (hg : W0.grownBy w4 u.ownBlock) :
    RefI w (w4.setCell ⟨Y + 1 + 1, 4, none⟩ (.slice (some ⟨g, 0, none⟩) (j + 1) cap)) Y B a b c k pv L (j + 1) (.slice (some ⟨g, 0, none⟩) (j + 1) cap) ∧ w4.frozen? ⟨Y + 1 + 1, 4, none⟩ = false ∧ w4.cell? ⟨Y + 1 + 1, 4, none⟩ = some u := by
  have hu : ∀ q, u.ownBlock = some q → B ≤ q := fun q hq => (World.ownsRow.lt h.o q hq).1
  have kp : ∀ {q : Nat} {t : TypeId} {cs : Array Value}, q < B → Blk wq q t cs → Blk w4 q t cs := fun hq hb => by
    have h0 := hb.below hW
    exact (hg.block _ h0.lt (fun e => by have := hu _ e.symm; omega)).trans h0
  have hx := kp (by omega) h.x
  have hgB : B ≤ g := (World.ownsRow.lt ho g rfl).1
  have ne : ∀ {q : Nat} {t : TypeId} {cs : Array Value}, q ≠ Y + 1 + 1 → Blk w4 q t cs → Blk (w4.setCell ⟨Y + 1 + 1, 4, none⟩ (.slice (some ⟨g, 0, none⟩) (j + 1) cap)) q t cs := fun hq hb => (Below.heap_setCell _ _ _ _ hq).trans hb
  refine ⟨⟨ne (by omega) (kp (by omega) h.e), ne (by omega) (kp (by omega) h.z), ?_, ?_, ?_⟩, hx.free 4, by rw [hx.cell]; rfl⟩
  · have := heap_setCell_same w4 (Y + 1 + 1) 4 #[.int .i64 a, .int .i64 b, .int .i64 c, .string k, u] 42 (.slice (some ⟨g, 0, none⟩) (j + 1) cap) hx
    exact this
  · have e : L.take (j + 1) = L.take j ++ [L[j]] := by rw [List.take_succ_eq_append_getElem hj]
    rw [e, cellsF_one]
    exact ownsRow_setCell_other ho (by simp [Value.ownBlock]; omega) _
  · have b1 : Below Y w W0 := h.b.trans (hW.mono (Nat.le_of_lt h.e.lt))
    have b2 : Below Y w w4 := b1.trans ⟨hg.os, hg.tape, hg.output, hg.size, fun q hq => hg.block q (Nat.lt_of_lt_of_le (Nat.lt_trans hq h.e.lt) hW.size) (fun e => by have := hu q e.symm; omega)⟩
    exact b2.setCell (p := ⟨Y + 1 + 1, 4, none⟩) (by show Y ≤ Y + 1 + 1; omega) _
theorem RefI.drew {w wq : World} {Y B : Nat} {a b c : Int} {k : ByteArray} {pv : Value} {L : List Fld} {j : Nat} {u : Value} (h : RefI w wq Y B a b c k pv L j u) : RefI w wq.drew Y B a b c k pv L j u :=
  ⟨h.e, h.z, h.x, World.ownsRow.kept h.o (row := none) ⟨rfl, rfl, rfl, Nat.le_refl _, fun _ _ _ => rfl⟩ (by cases u.ownBlock <;> simp), h.b.drew⟩
/-- what lies in the answer's block at the end -/
theorem ref_end {w wr : World} {Y : Nat} {a b c : Int} {k : ByteArray} {pv : Value} {L : List Fld} {ua : Option Addr} {uc j : Nat} (h : RefI w wr Y (Y + 3) a b c k pv L j (.slice ua j uc)) (hj : j = L.length) :
    ∃ W5, W5 = ((((wr.setCell ⟨Y + 1, 0, none⟩ (.int .i64 a)).setCell ⟨Y + 1, 1, none⟩ (.int .i64 b)).setCell ⟨Y + 1, 2, none⟩ (.int .i64 c)).setCell ⟨Y + 1, 3, none⟩ (.string k)).setCell ⟨Y + 1, 4, none⟩ (.slice ua j uc) ∧ Blk W5 (Y + 1) 42 #[.int .i64 a, .int .i64 b, .int .i64 c, .string k, .slice ua j uc] ∧ Below Y w W5 ∧ Flds W5 ua L := by
  have st : ∀ {W : World} {cs : Array Value} (i : Nat) (v : Value), Blk W (Y + 1) 42 cs → Blk (W.setCell ⟨Y + 1, i, none⟩ v) (Y + 1) 42 (cs.setIfInBounds i v) := fun i v hb => heap_setCell_same _ _ i _ 42 v hb
  have so : ∀ {W : World} (i : Nat) (v : Value), W.ownsRow (Y + 3) 108 5 (.slice ua j uc) j (cellsF (L.take j)) → (W.setCell ⟨Y + 1, i, none⟩ v).ownsRow (Y + 3) 108 5 (.slice ua j uc) j (cellsF (L.take j)) := fun i v ho => ownsRow_setCell_other ho (fun e => by have := (World.ownsRow.lt ho (Y + 1) (by first | exact e | exact e.symm)).1; omega) _
  have sb : ∀ {W : World} (i : Nat) (v : Value), Below Y w W → Below Y w (W.setCell ⟨Y + 1, i, none⟩ v) := fun i v hb => hb.setCell (p := ⟨Y + 1, i, none⟩) (by show Y ≤ Y + 1; omega) _
  have ho := so 4 (.slice ua j uc) (so 3 (.string k) (so 2 (.int .i64 c) (so 1 (.int .i64 b) (so 0 (.int .i64 a) h.o))))
  refine ⟨_, rfl, st 4 _ (st 3 _ (st 2 _ (st 1 _ (st 0 _ h.z)))), sb 4 _ (sb 3 _ (sb 2 _ (sb 1 _ (sb 0 _ h.b)))), ?_⟩
  rw [hj, List.take_of_length_le (Nat.le_refl _), ← hj] at ho
  rcases ho.2 with ⟨e, e0⟩ | ⟨g, cap, cur, e, _⟩
  · intro p hp; omega
  · cases e
    exact flds_own hj ho
end Go.Proofs.Ytggjpallbapcmaa
/-
  A TELLER IN MEMORY: many, NewTeller, Left, open, next, turn, Late, Session, came (where a session is opened).
-/
namespace Go.Proofs.Ytggjpallbapcmaa
open Go.RowKit
/-- a teller's cells -/
def tel (nodes to id sq : Int) (wv rv : Value) : Array Value := #[.int .i64 nodes, .int .i64 to, .int .i64 id, .int .i64 sq, wv, rv]
theorem Blk.set {w : World} {g : Nat} {t : TypeId} {cs : Array Value} (h : Blk w g t cs) (i : Nat) (u : Value) : Blk (w.setCell ⟨g, i, none⟩ u) g t (cs.setIfInBounds i u) := by
  unfold Blk at h ⊢
  simp [World.setCell, Array.getElem?_modify, h]
theorem Blk.new (w : World) (t : TypeId) (cs : Array Value) : Blk (w.alloc (.cells cs t)) w.heap.size t cs := heap_alloc_new w _
theorem Blk.at_ {w w' : World} {g B : Nat} {t : TypeId} {cs : Array Value} (h : Blk w g t cs) (hb : Below B w w') (hg : g < B) : Blk w' g t cs := (hb.block g hg).trans h
theorem drewB {B : Nat} {a w : World} (h : Below B a w) (n : Nat) : Below B a (w.drewN n) := ⟨h.os, h.tape, h.output, h.size, h.block⟩
def manyB (n : Int) : Bool := decide (1 ≤ n) && decide (n ≤ 7)
theorem many_any (n : Int) (w : World) : Calls Try.prog 38 #[.int .i64 n] w fun e w' => e = .returned (.bool (manyB n)) ∧ w = w' := by
  unfold manyB
  by_cases h1 : 1 ≤ n
  · by_cases h2 : n ≤ 7
    · rw [decide_eq_true h1, decide_eq_true h2]
      go_enter Try.func38, Try.ntmps38
      go_wp2_with fail
      go_ret
      exact ⟨ret_bool (by simp), rfl⟩
    · rw [decide_eq_true h1, decide_eq_false h2]
      have h3 : 7 < n := by omega
      go_enter Try.func38, Try.ntmps38
      go_wp2_with fail
      go_ret
      exact ⟨ret_bool (by simp), rfl⟩
  · rw [decide_eq_false h1]
    have h3 : n < 1 := by omega
    go_enter Try.func38, Try.ntmps38
    go_wp2_with fail
    go_ret
    exact ⟨rfl, rfl⟩
theorem tel_new (n : Int) (h : manyB n = true) (w : World) : Calls Try.prog 7 #[.int .i64 n] w fun e w' => e = .returned (.pointer (some ⟨w.heap.size, 0, none⟩)) ∧ Blk w' w.heap.size 98 (tel n 0 0 0 (.slice none 0 0) (.slice none 0 0)) ∧ Below w.heap.size w w' := by
  have M := many_any n
  rw [h] at M
  have FIN := Lib.hid (show Blk (w.alloc (.cells (tel n 0 0 0 (.slice none 0 0) (.slice none 0 0)) 98)) w.heap.size 98 (tel n 0 0 0 (.slice none 0 0) (.slice none 0 0)) ∧ Below w.heap.size w (w.alloc (.cells (tel n 0 0 0 (.slice none 0 0) (.slice none 0 0)) 98)) from ⟨Blk.new _ _ _, (Below.refl _ w).alloc (Nat.le_refl _) _⟩)
  go_enter Try.func7, Try.ntmps7
  go_wp2_with fail
  refine (M _).mono ?_
  rintro e w1 ⟨rfl, rfl⟩
  go_wp2_with fail
  go_ret
  exact ⟨rfl, FIN.out⟩
theorem tel_newN (n : Int) (h : manyB n = false) (w : World) : Calls Try.prog 7 #[.int .i64 n] w fun e w' => e = .returned (.pointer none) ∧ w = w' := by
  have M := many_any n
  rw [h] at M
  go_enter Try.func7, Try.ntmps7
  go_wp2_with fail
  refine (M _).mono ?_
  rintro e w1 ⟨rfl, rfl⟩
  go_wp2_with fail
  go_ret
  exact ⟨rfl, rfl⟩
section
variable {w : World} {t : Nat} {nodes to id sq : Int} {wv rv : Value}
theorem left_any {a : Option Addr} {n c : Nat} (T : Blk w t 98 (tel nodes to id sq (.slice a n c) rv)) : Calls Try.prog 36 #[.pointer (some ⟨t, 0, none⟩)] w fun e w' => e = .returned (.int .i64 (n : Int)) ∧ w = w' := by
  have c4 : w.cell? ⟨t, 4, none⟩ = some (.slice a n c) := T.cell 4
  clear T
  go_enter Try.func36, Try.ntmps36
  go_wp2_with fail
  go_ret
  exact ⟨rfl, rfl⟩
theorem left_nil (w : World) : Calls Try.prog 36 #[.pointer none] w fun e w' => e = .returned (.int .i64 0) ∧ w = w' := by
  go_enter Try.func36, Try.ntmps36
  go_wp2_with fail
  go_ret
  exact ⟨rfl, rfl⟩
theorem open_any (T : Blk w t 98 (tel nodes to id sq wv rv)) : Calls Try.prog 45 #[.pointer (some ⟨t, 0, none⟩)] w fun e w' => e = .returned (.bool (id != 0)) ∧ w = w' := by
  have c2 : w.cell? ⟨t, 2, none⟩ = some (.int .i64 id) := T.cell 2
  clear T
  go_enter Try.func45, Try.ntmps45
  go_wp2_with fail
  go_ret
  exact ⟨rfl, rfl⟩
theorem sess_any (T : Blk w t 98 (tel nodes to id sq wv rv)) : Calls Try.prog 35 #[.pointer (some ⟨t, 0, none⟩)] w fun e w' => e = .returned (.tuple #[.int .i64 id, .int .i64 sq]) ∧ Below w.heap.size w w' := by
  have c2 : w.cell? ⟨t, 2, none⟩ = some (.int .i64 id) := T.cell 2
  have c3 : w.cell? ⟨t, 3, none⟩ = some (.int .i64 sq) := T.cell 3
  have FIN := Lib.hid (fun n => drewB (Below.refl w.heap.size w) n)
  clear T
  go_enter Try.func35, Try.ntmps35
  go_wp2_with fail
  go_quiet (fail)
  go_wp2_with fail
  go_ret2
  all_goals exact ⟨rfl, FIN.out _⟩
theorem sess_nil (w : World) : Calls Try.prog 35 #[.pointer none] w fun e w' => e = .returned (.tuple #[.int .i64 0, .int .i64 0]) ∧ w = w' := by
  go_enter Try.func35, Try.ntmps35
  go_wp2_with fail
  go_ret2
  exact ⟨rfl, rfl⟩
end
/-- the next node -/
def nextN (to nodes : Int) : Int := if to + 1 < nodes then to + 1 else 0
end Go.Proofs.Ytggjpallbapcmaa
/-
  VALUES THAT MAY BE: event.value, the document's may and in.
-/
namespace Go.Proofs.Ytggjpallbapcmaa
open Go.RowKit
theorem in_any (n : Int) (w : World) : Calls Try.prog 68 #[.int .i64 n] w fun e w' => e = .returned (.bool (numB n)) ∧ w = w' := by
  unfold numB
  by_cases h1 : 0 ≤ n
  · by_cases h2 : n ≤ 549755813888
    · rw [decide_eq_true h1, decide_eq_true h2]
      go_enter Try.func68, Try.ntmps68
      go_wp2_with fail
      go_ret
      exact ⟨ret_bool (by simp), rfl⟩
    · rw [decide_eq_true h1, decide_eq_false h2]
      have h3 : 549755813888 < n := by omega
      go_enter Try.func68, Try.ntmps68
      go_wp2_with fail
      go_ret
      exact ⟨ret_bool (by simp), rfl⟩
  · rw [decide_eq_false h1]
    have h3 : n < 0 := by omega
    go_enter Try.func68, Try.ntmps68
    go_wp2_with fail
    go_ret
    exact ⟨rfl, rfl⟩
def mayB (v : Val) : Bool :=
  if v.k = 1 then decide (v.f = 0) && decide (v.s = ⟨#[]⟩)
  else if v.k = 2 then decide (v.n = 0) && decide (v.s = ⟨#[]⟩)
  else if v.k = 3 then decide (v.s.size ≤ 64) && (decide (v.n = 0) && decide (v.f = 0))
  else false
theorem str_zero {s : ByteArray} (h : s ≠ ⟨#[]⟩) : (s.toList == []) = false := by
  simp only [ByteArray.toList_eq, beq_eq_false_iff_ne, ne_eq]
  intro e
  apply h
  cases s
  simp only [ByteArray.mk.injEq]
  exact Array.toList_inj.1 (by simpa using e)
set_option maxHeartbeats 1000000 in
theorem value_any (v : Val) (hs : v.s.size ≤ 9223372036854775807) (w : World) : Calls Try.prog 89 #[v.val] w fun e w' => e = .returned (.bool (mayB v)) ∧ Below w.heap.size w w' := by
  have hb := run_bits v.f
  obtain ⟨k, n, f, s⟩ := v
  unfold Val.val mayB
  simp only at *
  have FIN := Lib.hid (fun ob => (Below.refl _ w).alloc (Nat.le_refl _) ob)
  by_cases h1 : k = 1
  · subst h1
    rw [if_pos rfl]
    by_cases hf : f = 0
    · subst hf
      by_cases hz : s = ⟨#[]⟩
      · subst hz
        go_enter Try.func89, Try.ntmps89
        go_wp2_with fail
        go_ret
        exact ⟨rfl, FIN.out _⟩
      · rw [decide_eq_false hz]
        have hz' := str_zero hz
        clear hz
        go_enter Try.func89, Try.ntmps89
        go_wp2_with fail
        go_ret
        exact ⟨rfl, FIN.out _⟩
    · rw [decide_eq_false hf]
      have hf' : ((f : Int) == 0) = false := by simpa using hf
      clear hf
      go_enter Try.func89, Try.ntmps89
      go_wp2_with fail
      go_ret
      exact ⟨rfl, FIN.out _⟩
  rw [if_neg h1]
  by_cases h2 : k = 2
  · subst h2
    rw [if_pos rfl]
    clear h1 hb
    have hb0 := run_bits 0
    by_cases hn : n = 0
    · subst hn
      by_cases hz : s = ⟨#[]⟩
      · subst hz
        go_enter Try.func89, Try.ntmps89
        go_wp2_with fail
        go_ret
        exact ⟨rfl, FIN.out _⟩
      · rw [decide_eq_false hz]
        have hz' := str_zero hz
        clear hz
        go_enter Try.func89, Try.ntmps89
        go_wp2_with fail
        go_ret
        exact ⟨rfl, FIN.out _⟩
    · rw [decide_eq_false hn]
      have hn' : (n == 0) = false := by simpa using hn
      clear hn
      go_enter Try.func89, Try.ntmps89
      go_wp2_with fail
      go_ret
      exact ⟨rfl, FIN.out _⟩
  rw [if_neg h2]
  by_cases h3 : k = 3
  · subst h3
    rw [if_pos rfl]
    clear h1 h2
    by_cases hl : s.size ≤ 64
    · have hl' : ¬ (64 : Int) < (s.size : Int) := by omega
      rw [decide_eq_true hl]
      by_cases hn : n = 0
      · subst hn
        by_cases hf : f = 0
        · subst hf
          go_enter Try.func89, Try.ntmps89
          go_wp2_with fail
          go_ret
          exact ⟨rfl, FIN.out _⟩
        · rw [decide_eq_false hf]
          have hf' : ((f : Int) == 0) = false := by simpa using hf
          clear hf
          go_enter Try.func89, Try.ntmps89
          go_wp2_with fail
          go_ret
          exact ⟨rfl, FIN.out _⟩
      · rw [decide_eq_false hn]
        have hn' : (n == 0) = false := by simpa using hn
        clear hn
        go_enter Try.func89, Try.ntmps89
        go_wp2_with fail
        go_ret
        exact ⟨rfl, FIN.out _⟩
    · rw [decide_eq_false hl]
      have hl' : (64 : Int) < (s.size : Int) := by omega
      clear hl
      go_enter Try.func89, Try.ntmps89
      go_wp2_with fail
      go_ret
      exact ⟨rfl, FIN.out _⟩
  rw [if_neg h3]
  have d1 : (k == 1) = false := by simpa using h1
  have d2 : (k == 2) = false := by simpa using h2
  have d3 : (k == 3) = false := by simpa using h3
  clear h1 h2 h3
  go_enter Try.func89, Try.ntmps89
  go_wp2_with fail
  go_ret
  exact ⟨rfl, FIN.out _⟩
set_option maxHeartbeats 1000000 in
theorem may_any (v : Val) (hs : v.s.size ≤ 9223372036854775807) (w : World) : Calls Try.prog 69 #[v.val] w fun e w' => e = .returned (.bool (mayB v)) ∧ Below w.heap.size w w' := by
  have hb := run_bits v.f
  obtain ⟨k, n, f, s⟩ := v
  unfold Val.val mayB
  simp only at *
  have FIN := Lib.hid ((Below.refl _ w).alloc (Nat.le_refl _) (.cells #[.int .i64 k, .int .i64 n, .float .f64 f, .string s] 106))
  by_cases h0 : k < 1
  · have R := Lib.hid (show false = (if k = 1 then decide (f = 0) && decide (s = ⟨#[]⟩) else if k = 2 then decide (n = 0) && decide (s = ⟨#[]⟩) else if k = 3 then decide (s.size ≤ 64) && (decide (n = 0) && decide (f = 0)) else false) by
      rw [if_neg (by omega), if_neg (by omega), if_neg (by omega)])
    rw [← R.out]
    go_enter Try.func69, Try.ntmps69
    go_wp2_with fail
    go_ret
    exact ⟨rfl, FIN.out⟩
  by_cases h4 : 3 < k
  · have R := Lib.hid (show false = (if k = 1 then decide (f = 0) && decide (s = ⟨#[]⟩) else if k = 2 then decide (n = 0) && decide (s = ⟨#[]⟩) else if k = 3 then decide (s.size ≤ 64) && (decide (n = 0) && decide (f = 0)) else false) by
      rw [if_neg (by omega), if_neg (by omega), if_neg (by omega)])
    rw [← R.out]
    go_enter Try.func69, Try.ntmps69
    go_wp2_with fail
    go_ret
    exact ⟨rfl, FIN.out⟩
  by_cases hl : s.size ≤ 64
  · have hl' : ¬ (64 : Int) < (s.size : Int) := by omega
    obtain ⟨en, hen⟩ : ∃ b : Bool, decide (n = 0) = b := ⟨_, rfl⟩
    obtain ⟨ef, hef⟩ : ∃ b : Bool, decide (f = 0) = b := ⟨_, rfl⟩
    obtain ⟨es, hes⟩ : ∃ b : Bool, decide (s = ⟨#[]⟩) = b := ⟨_, rfl⟩
    have xn : (n == 0) = en := by rw [← hen]; apply Bool.eq_iff_iff.2; simp
    have xf : ((f : Int) == 0) = ef := by rw [← hef]; apply Bool.eq_iff_iff.2; simp
    have xs : (s.toList == []) = es := by
      rw [← hes]
      by_cases hz : s = ⟨#[]⟩
      · subst hz; simp [ByteArray.toList_eq]
      · rw [decide_eq_false hz]; exact str_zero hz
    rw [hen, hef, hes, decide_eq_true hl]
    clear hen hef hes hl
    rcases (show k = 1 ∨ k = 2 ∨ k = 3 by omega) with rfl | rfl | rfl
    · rw [if_pos rfl]
      clear h0 h4
      cases en <;> cases ef <;> cases es <;> (go_enter Try.func69, Try.ntmps69; go_wp2_with fail; go_ret; exact ⟨rfl, FIN.out⟩)
    · rw [if_neg (by decide), if_pos rfl]
      clear h0 h4
      cases en <;> cases ef <;> cases es <;> (go_enter Try.func69, Try.ntmps69; go_wp2_with fail; go_ret; exact ⟨rfl, FIN.out⟩)
    · rw [if_neg (by decide), if_neg (by decide), if_pos rfl]
      clear h0 h4
      cases en <;> cases ef <;> cases es <;> (go_enter Try.func69, Try.ntmps69; go_wp2_with fail; go_ret; exact ⟨rfl, FIN.out⟩)
  · have hl' : (64 : Int) < (s.size : Int) := by omega
    have hne : s ≠ ⟨#[]⟩ := fun e => by rw [e] at hl; exact hl (by decide)
    have R := Lib.hid (show false = (if k = 1 then decide (f = 0) && decide (s = ⟨#[]⟩) else if k = 2 then decide (n = 0) && decide (s = ⟨#[]⟩) else if k = 3 then decide (s.size ≤ 64) && (decide (n = 0) && decide (f = 0)) else false) by
      rw [decide_eq_false hne, decide_eq_false hl]; simp)
    rw [← R.out]
    clear hl hne
    go_enter Try.func69, Try.ntmps69
    go_wp2_with fail
    go_ret
    exact ⟨rfl, FIN.out⟩
end Go.Proofs.Ytggjpallbapcmaa
