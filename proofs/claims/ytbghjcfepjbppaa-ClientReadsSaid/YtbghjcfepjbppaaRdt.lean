/-
  THE DOCUMENT's READER IS TOLD.
-/
import Derived.Test.YtbghjcfepjbppaaRdc
namespace Go.Proofs.Ytbghjcfepjbppaa
open Go.RowKit
/-- numbers and rows side by side, that the call made -/
structure TwoA (w0 w : World) (V : Nat → Prop) (Ns : List Int) (Gs : List (List Int)) (va vb : Value) (cs : List Value) : Prop where
  ints : w.ownsRow w0.heap.size 3 1 va Ns.length (Ns.map (Value.int .i64))
  rows : RoA w0 w V Gs vb cs
theorem own_ne {w : World} {B1 B2 t1 t2 s1 s2 n1 n2 : Nat} {v1 v2 : Value} {x1 x2 : List Value} (h1 : w.ownsRow B1 t1 s1 v1 n1 x1) (h2 : w.ownsRow B2 t2 s2 v2 n2 x2) (ht : t1 ≠ t2) {q : Nat} (e1 : v1.ownBlock = some q) : v2.ownBlock ≠ some q := by
  intro e2
  rcases h1.2 with ⟨rfl, _⟩ | ⟨g1, c1, cur1, rfl, _, hg1, _⟩
  · simp [Value.ownBlock] at e1
  · rcases h2.2 with ⟨rfl, _⟩ | ⟨g2, c2, cur2, rfl, _, hg2, _⟩
    · simp [Value.ownBlock] at e2
    · have h3 : g1 = q := by simpa [Value.ownBlock] using e1
      have h4 : g2 = q := by simpa [Value.ownBlock] using e2
      subst h3 h4
      rw [hg1] at hg2
      simp only [Option.some.injEq, Obj.cells.injEq] at hg2
      exact ht hg2.2.1
theorem TwoA.int {w0 w w4 : World} {V : Nat → Prop} {Ns : List Int} {Gs : List (List Int)} {va vb v' : Value} {cs : List Value} {x : Int} (o : Obj) (hV : ∀ q, V q → q < w0.heap.size) (h : TwoA w0 w V Ns Gs va vb cs)
    (ho : w4.ownsRow w0.heap.size 3 1 v' (Ns.length + 1) (Ns.map (Value.int .i64) ++ [.int .i64 x])) (hg : (w.alloc o).grownBy w4 va.ownBlock) : TwoA w0 w4 V (Ns ++ [x]) Gs v' vb cs := by
  have hb := h.rows.b.size
  have f : Fr w w4 (fun q => va.ownBlock = some q) := ((Fr.refl w _).al o).on ((Fr.of_grown hg).mono (fun q _ h => h.symm))
  refine ⟨by rw [List.length_append, List.map_append]; exact ho, ⟨Fr.own h.rows.own f (fun q hq e => own_ne h.ints h.rows.own (by decide) e hq), h.rows.cel.fr f (fun q hq e => ?_), h.rows.b.trans (f.below (fun q hq => (World.ownsRow.lt h.ints q hq).1) hb)⟩⟩
  have := (World.ownsRow.lt h.ints q e).1
  have := hV q hq
  omega
theorem TwoA.row {w0 w w4 : World} {V : Nat → Prop} {Ns : List Int} {Gs : List (List Int)} {va vb v' : Value} {cs : List Value} {q : Option Addr} {c : Nat} {xs : List Int} (o : Obj) (hV : ∀ q, V q → q < w0.heap.size) (h : TwoA w0 w V Ns Gs va vb cs) (hn : NumsD w V q xs)
    (ho : w4.ownsRow w0.heap.size 55 1 v' (Gs.length + 1) (cs ++ [.slice q xs.length c])) (hg : (w.alloc o).grownBy w4 vb.ownBlock) : TwoA w0 w4 V Ns (Gs ++ [xs]) va v' (cs ++ [.slice q xs.length c]) := by
  have f : Fr w w4 (fun q => vb.ownBlock = some q) := ((Fr.refl w _).al o).on ((Fr.of_grown hg).mono (fun q _ h => h.symm))
  exact ⟨Fr.own h.ints f (fun q hq e => own_ne h.rows.own h.ints (by decide) e hq), h.rows.push o hV hn ho hg⟩
theorem nums_own {w : World} {B : Nat} {a : Option Addr} {n c : Nat} {xs : List Int} {V : Nat → Prop} (h : w.ownsRow B 3 1 (.slice a n c) xs.length (xs.map (Value.int .i64))) (hV : ∀ q, B ≤ q → V q) : NumsD w V a xs := by
  have h0 := h
  rcases h.2 with ⟨e, e'⟩ | ⟨g, cap, cur, e, hb, hg, _⟩
  · have : xs = [] := List.length_eq_zero_iff.1 e'
    subst this
    exact numsD_nil _ _ _
  · obtain ⟨rfl, rfl, rfl⟩ : a = some ⟨g, 0, none⟩ ∧ n = xs.length ∧ c = cap := by
      simp only [Value.slice.injEq] at e; exact e
    refine ⟨fun p hp => ⟨g, 0, rfl, (Array.getElem?_eq_some_iff.1 hg).1, ?_⟩, fun p hp _ => by cases hp; exact hV _ hb⟩
    rw [Nat.zero_add, h0.cellAt _ (by omega)]
    simp [hp]
/-- the document's reader as a value -/
def docV (nodes to at_ gone : Int) (nv gv : Value) : Value := .agg #[.int .i64 nodes, .int .i64 to, .int .i64 at_, .int .i64 gone, nv, gv]
/-- what Told leaves of the document's reader -/
def DocR (w : World) (V : Nat → Prop) (nodes to at_ gone : Int) (LG : List (Int × List Int)) (e : Ending) (w' : World) : Prop :=
  ∃ an cn ag cg, e = .returned (docV nodes to at_ gone (.slice an LG.length cn) (.slice ag LG.length cg)) ∧ NumsD w' (fun q => V q ∨ w.heap.size ≤ q) an (LG.map (·.1)) ∧ RwsD w' (fun q => V q ∨ w.heap.size ≤ q) ag (LG.map (·.2)) ∧ Below w.heap.size w w'
/-- the document's reader in a block -/
structure DocA (w : World) (V : Nat → Prop) (an ag : Option Addr) (LG : List (Int × List Int)) : Prop where
  n : NumsD w V an (LG.map (·.1))
  g : RwsD w V ag (LG.map (·.2))
theorem DocA.next {w w' : World} {V : Nat → Prop} {an ag : Option Addr} {LG : List (Int × List Int)} (h : DocA w V an ag LG) (b : Below w.heap.size w w') : DocA w' V an ag LG := ⟨h.n.next b, h.g.next b⟩
theorem boxes58 (w : World) (nodes to at_ gone : Int) (nv gv : Value) : ∃ w1, w1 = (w.alloc (.cells #[.int .i64 nodes, .int .i64 to, .int .i64 at_, .int .i64 gone, nv, gv] 58)).alloc (.cells #[.int .i64 0, .int .i64 0, .int .i64 0, .int .i64 0, .slice none 0 0, .slice none 0 0] 58) ∧
    Blk w1 w.heap.size 58 #[.int .i64 nodes, .int .i64 to, .int .i64 at_, .int .i64 gone, nv, gv] ∧ Blk w1 (w.heap.size + 1) 58 #[.int .i64 0, .int .i64 0, .int .i64 0, .int .i64 0, .slice none 0 0, .slice none 0 0] ∧ Below w.heap.size w w1 ∧ w1.heap.size = w.heap.size + 1 + 1 :=
  ⟨_, rfl, (Blk.new w 58 _).below ((Below.refl _ _).alloc (Nat.le_refl _) _), by have := Blk.new (w.alloc (.cells #[.int .i64 nodes, .int .i64 to, .int .i64 at_, .int .i64 gone, nv, gv] 58)) 58 #[.int .i64 0, .int .i64 0, .int .i64 0, .int .i64 0, .slice none 0 0, .slice none 0 0]; simpa using this, ((Below.refl w.heap.size w).alloc (Nat.le_refl _) _).alloc (by simp) _, by simp⟩
theorem below6 {B Y : Nat} {w w3 : World} (h : Below B w w3) (hB : B ≤ Y) (a b c d e f : Value) : Below B w ((((((w3.setCell ⟨Y, 0, none⟩ a).setCell ⟨Y, 1, none⟩ b).setCell ⟨Y, 2, none⟩ c).setCell ⟨Y, 3, none⟩ d).setCell ⟨Y, 4, none⟩ e).setCell ⟨Y, 5, none⟩ f) :=
  (below5 h hB a b c d e).setCell (p := ⟨Y, 5, none⟩) hB _
set_option maxHeartbeats 4000000 in
set_option maxRecDepth 100000 in
theorem rtold_gone {w : World} {V : Nat → Prop} {nodes to at_ gone : Int} {an ag : Option Addr} {cn cg : Nat} {LG : List (Int × List Int)} (a : Option Addr) (m c : Nat) (n : Int) (h : DocA w V an ag LG) (ha : 0 ≤ at_ ∧ 0 ≤ gone ∧ gone ≤ at_) (hn : n ≤ 9223372036854775807) (h1 : at_ < n) :
    Calls Try.prog 19 #[docV nodes to at_ gone (.slice an LG.length cn) (.slice ag LG.length cg), .slice a m c, .int .i64 n, .int .i64 180] w (DocR w V nodes to n (gone + (n - at_)) LG) := by
  have F9 : Hid (∀ o1 o2, DocR w V nodes to n (gone + (n - at_)) LG (.returned (docV nodes to n (gone + (n - at_)) (.slice an LG.length cn) (.slice ag LG.length cg))) ((w.alloc o1).alloc o2)) := Lib.hid (fun o1 o2 => by
    have b : Below w.heap.size w ((w.alloc o1).alloc o2) := ((Below.refl w.heap.size w).alloc (Nat.le_refl _) _).alloc (by simp) _
    exact ⟨an, cn, ag, cg, rfl, (h.n.next b).mono (fun _ hq => .inl hq), (h.g.next b).mono (fun _ hq => .inl hq), b⟩)
  obtain ⟨ha0, ha1, ha2⟩ := ha
  have hww : wrap64 (wrap64 (gone + n) - at_) = gone + (n - at_) := by unfold wrap64; omega
  unfold docV at F9 ⊢
  generalize DocR w V nodes to n (gone + (n - at_)) LG = Q at *
  clear h
  generalize LG.length = r at *
  generalize gone + (n - at_) = g2 at *
  go_enter Try.func19, Try.ntmps19
  go_wp2_with fail
  refine bodyPost_ret (by simp [results, Try.results19, go_sem]; try rfl) rfl ?_
  exact F9.out _ _
set_option maxHeartbeats 4000000 in
set_option maxRecDepth 100000 in
theorem rtold_next {w : World} {V : Nat → Prop} {nodes to at_ gone : Int} {an ag : Option Addr} {cn cg : Nat} {LG : List (Int × List Int)} (a : Option Addr) (m c : Nat) (n e : Int) (h : DocA w V an ag LG) (ht : 0 ≤ to ∧ to ≤ 100) (ha : 0 ≤ at_) (hn : n ≤ 9223372036854775807)
    (h0 : e = 0 → ¬ (at_ ≤ n ∧ n - at_ = (m : Int))) (h1 : e = 180 → ¬ at_ < n) :
    Calls Try.prog 19 #[docV nodes to at_ gone (.slice an LG.length cn) (.slice ag LG.length cg), .slice a m c, .int .i64 n, .int .i64 e] w (DocR w V nodes (nextN to nodes) at_ gone LG) := by
  have F9 : Hid (∀ o1 o2, DocR w V nodes (nextN to nodes) at_ gone LG (.returned (docV nodes (nextN to nodes) at_ gone (.slice an LG.length cn) (.slice ag LG.length cg))) ((w.alloc o1).alloc o2)) := Lib.hid (fun o1 o2 => by
    have b : Below w.heap.size w ((w.alloc o1).alloc o2) := ((Below.refl w.heap.size w).alloc (Nat.le_refl _) _).alloc (by simp) _
    exact ⟨an, cn, ag, cg, rfl, (h.n.next b).mono (fun _ hq => .inl hq), (h.g.next b).mono (fun _ hq => .inl hq), b⟩)
  have NX := Lib.hid (fun W => rnext_any to nodes W ht)
  unfold docV at F9 ⊢
  generalize DocR w V nodes (nextN to nodes) at_ gone LG = Q at *
  clear h
  generalize LG.length = r at *
  generalize nextN to nodes = nx at *
  by_cases he : e = 0
  · subst he
    by_cases hl : at_ ≤ n
    · have hd : decide (at_ ≤ n) = true := decide_eq_true hl
      have hw : wrap64 (n - at_) = n - at_ := by unfold wrap64; omega
      have hq : (n - at_ == (m : Int)) = false := by
        rw [beq_eq_false_iff_ne]
        intro h; exact h0 rfl ⟨hl, h⟩
      clear h0 h1
      go_enter Try.func19, Try.ntmps19
      go_wp2_with fail
      refine (NX.out _).mono ?_
      rintro e w2 ⟨rfl, rfl⟩
      go_wp2_with fail
      refine bodyPost_ret (by simp [results, Try.results19, go_sem]; try rfl) rfl ?_
      exact F9.out _ _
    · have hd : decide (at_ ≤ n) = false := decide_eq_false hl
      clear h0 h1
      go_enter Try.func19, Try.ntmps19
      go_wp2_with fail
      refine (NX.out _).mono ?_
      rintro e w2 ⟨rfl, rfl⟩
      go_wp2_with fail
      refine bodyPost_ret (by simp [results, Try.results19, go_sem]; try rfl) rfl ?_
      exact F9.out _ _
  · have he0 : (e == 0) = false := by rw [beq_eq_false_iff_ne]; exact he
    by_cases he1 : e = 180
    · subst he1
      have hd : decide (at_ < n) = false := decide_eq_false (h1 rfl)
      clear h0 h1 he he0
      go_enter Try.func19, Try.ntmps19
      go_wp2_with fail
      refine (NX.out _).mono ?_
      rintro e w2 ⟨rfl, rfl⟩
      go_wp2_with fail
      refine bodyPost_ret (by simp [results, Try.results19, go_sem]; try rfl) rfl ?_
      exact F9.out _ _
    · have he2 : (e == 180) = false := by rw [beq_eq_false_iff_ne]; exact he1
      clear h0 h1 he he1
      go_enter Try.func19, Try.ntmps19
      go_wp2_with fail
      refine (NX.out _).mono ?_
      rintro e w2 ⟨rfl, rfl⟩
      go_wp2_with fail
      refine bodyPost_ret (by simp [results, Try.results19, go_sem]; try rfl) rfl ?_
      exact F9.out _ _
end Go.Proofs.Ytbghjcfepjbppaa
