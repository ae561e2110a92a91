/-
  THE WALK OF Due.
-/
import Derived.Test.YtkdaifcnlobhkaaAAgd
namespace Go.Proofs.Ytkdaifcnlobhkaa.Ag
open Go.RowKit
theorem Agd.grown {w w' : World} {B A : Nat} {Z : Int} {r row : Option Nat} {R : List It} (h : Agd w B A Z r R) (hg : w.grownBy w' row) (hA : some A ≠ row) (hr : row = none ∨ row ≠ r) : Agd w' B A Z r R := by
  obtain ⟨v, l, rfl, h2, h3⟩ := h
  refine ⟨v, l, rfl, ⟨(hg.block A h2.lt hA).trans h2.blk, World.ownsRow.kept h2.own hg ?_, h2.small⟩, h3⟩
  rcases hr with e | e
  · subst e
    cases v.ownBlock
    · exact .inl rfl
    · exact .inr (by simp)
  · exact .inr (fun e' => e e'.symm)
theorem Tch.grow {w w1 w2 : World} {A : Nat} {r r' row : Option Nat} (t : Tch w w1 A r r') (hg : w1.grownBy w2 row) (hrow : ∀ k, row = some k → w.heap.size ≤ k) : Tch w w2 A r r' :=
  ⟨hg.os.trans t.os, hg.tape.trans t.tape, hg.output.trans t.output, Nat.le_trans t.size hg.size, fun k hk hA hr => (hg.block k (Nat.lt_of_lt_of_le hk t.size) (fun e => by have := hrow k e.symm; omega)).trans (t.block k hk hA hr), t.own⟩
theorem own_tch {w w' : World} {A base : Nat} {r r' : Option Nat} {e : TypeId} {size n : Nat} {v : Value} {xs : List Value} (h : w.ownsRow base e size v n xs) (t : Tch w w' A r r') (h1 : v.ownBlock ≠ some A) (h2 : v.ownBlock = none ∨ v.ownBlock ≠ r) : w'.ownsRow base e size v n xs := by
  refine ⟨h.1, ?_⟩
  rcases h.2 with hn | ⟨g, cap, cur, rfl, hb, hg, rest⟩
  · exact .inl hn
  · refine .inr ⟨g, cap, cur, rfl, hb, ?_, rest⟩
    rw [t.block g (Array.getElem?_eq_some_iff.1 hg).1 (by rintro rfl; exact h1 rfl) (by
      rcases h2 with h2 | h2
      · cases h2
      · exact h2)]
    exact hg
/-- what heap.Pop leaves of an agenda -/
def Popd (w : World) (B A : Nat) (Z : Int) (r : Option Nat) (x : It) (R : List It) (e : Ending) (w' : World) : Prop :=
  ∃ r', e = .returned (.iface 87 (agg x)) ∧ Agd w' B A Z r' R ∧ Tch w w' A r r'
theorem pop_agd (w : World) (B A : Nat) (Z : Int) (r : Option Nat) (x : It) (R : List It) (h : Agd w B A Z r (x :: R)) :
    Calls Try.prog 46 #[.iface 103 (.pointer (some ⟨A, 0, none⟩))] w (Popd w B A Z r x R) := by
  obtain ⟨v, l, rfl, h2, h3, hp, hs, hi, hd⟩ := h
  have hlen := hp.length_eq
  have hx := sorted_head h3 hp hs
  obtain ⟨g, cap, rfl, ha⟩ := h2.ha (by rw [hlen]; simp)
  rw [hlen] at ha h3
  refine (hpop_any B A g cap R.length Z l w ha h3).mono ?_
  rintro e w' ⟨v', l', rfl, a', hh', p', t'⟩
  rw [hx] at p' ⊢
  exact ⟨_, rfl, ⟨v', l', rfl, a', hh', List.Perm.cons_inv (p'.trans hp), List.Pairwise.of_cons hs, fun y hy => hi y (List.mem_cons_of_mem _ hy), List.Pairwise.of_cons hd⟩, t'⟩
def sliceLen : Value → Nat
  | .slice _ n _ => n
  | _ => 0
theorem own_len {w : World} {B : Nat} {e : TypeId} {v : Value} {l : List It} (h : w.ownsRow B e 3 v l.length (cells l)) : sliceLen v = l.length := by
  rcases h.2 with ⟨rfl, e⟩ | ⟨g, cap, cur, rfl, _⟩
  · rw [e]; rfl
  · rfl
/-- what Due leaves, and tells -/
def Dued (w : World) (B A : Nat) (Z : Int) (r : Option Nat) (R : List It) (now : Int) (e : Ending) (w' : World) : Prop :=
  ∃ v X R' r', e = .returned v ∧ R = X ++ R' ∧ (∀ x ∈ X, x.t ≤ now) ∧ (∀ x ∈ R', now < x.t) ∧ Agd w' B A Z r' R' ∧ Tch w w' A r r' ∧ w'.ownsRow w.heap.size 87 3 v X.length (cells X) ∧ (v.ownBlock = none ∨ v.ownBlock ≠ r')
theorem late {x : It} {R : List It} {now : Int} (hs : Sorted (x :: R)) (h : now < x.t) : ∀ y ∈ x :: R, now < y.t := by
  intro y hy
  rcases List.mem_cons.1 hy with rfl | hy
  · exact h
  · have := List.rel_of_pairwise_cons hs hy
    unfold It.lt at this
    omega
theorem Agd.sorted {w : World} {B A : Nat} {Z : Int} {r : Option Nat} {R : List It} (h : Agd w B A Z r R) : Sorted R := by
  obtain ⟨_, _, _, _, _, _, h, _⟩ := h
  exact h
theorem first_none (w : World) (B A : Nat) (Z : Int) (r : Option Nat) (h : Agd w B A Z r []) : Calls Try.prog 45 #[.pointer (some ⟨A, 0, none⟩)] w fun e w' => e = .returned (.tuple #[.agg #[.int .i64 0, .int .i64 0, .int .i64 0], .bool false]) ∧ Below w.heap.size w w' := first_any w B A Z r [] h
theorem first_some (w : World) (B A : Nat) (Z : Int) (r : Option Nat) (x : It) (R : List It) (h : Agd w B A Z r (x :: R)) : Calls Try.prog 45 #[.pointer (some ⟨A, 0, none⟩)] w fun e w' => e = .returned (.tuple #[.agg #[.int .i64 x.t, .int .i64 x.i, .int .i64 x.x], .bool true]) ∧ Below w.heap.size w w' := first_any w B A Z r (x :: R) h
theorem due_nil (now : Int) (w : World) : Calls Try.prog 31 #[.pointer none, .int .i64 now] w fun e w' => e = .returned (.slice none 0 0) ∧ Below w.heap.size w w' := by
  have F := first_nil w
  unfold fstV agg at F
  go_enter Try.func31, Try.ntmps31
  go_wp2_with fail
  refine wp_loop_rounds 2 ?_
  rw [rounds_succ]
  go_wp2_with fail
  refine F.mono ?_
  rintro e w1 ⟨rfl, b1⟩
  go_wp2_with fail
  go_ret
  exact ⟨rfl, b1.alloc b1.size _⟩
set_option maxHeartbeats 2000000 in
set_option maxRecDepth 100000 in
theorem due_any (w : World) (B A : Nat) (Z : Int) (r : Option Nat) (R : List It) (now : Int) (h : Agd w B A Z r R) (hR : R.length ≤ 4096) :
    Calls Try.prog 31 #[.pointer (some ⟨A, 0, none⟩), .int .i64 now] w (Dued w B A Z r R now) := by
  have hA := h.lt.1
  have HR := Lib.hid hR
  obtain ⟨i46, hi, hz0, hz1, hz2⟩ := info_parts info46
  have H := Lib.hid h
  clear h hR
  go_enter Try.func31, Try.ntmps31
  go_wp2_with fail
  go_loopw [4] (fun v wr => ∃ X R' r', R = X ++ R' ∧ (∀ x ∈ X, x.t ≤ now) ∧ Agd wr B A Z r' R' ∧ Tch w wr A r r' ∧ wr.ownsRow w.heap.size 87 3 v X.length (cells X) ∧ (v.ownBlock = none ∨ v.ownBlock ≠ r')) (fun v _ => R.length - sliceLen v)
  case atStart => exact ⟨[], R, r, rfl, fun x hx => by simp at hx, H.out, Tch.refl _ _ _, World.ownsRow_nil _ _ _ _, .inl rfl⟩
  case round =>
    obtain ⟨X, R', r', hX, hle, hG, hT, hO, hN⟩ := hrel
    cases R' with
    | nil =>
      have F := first_none wr B A Z r' hG
      have FIN : Hid (∀ w', Below wr.heap.size wr w' → Dued w B A Z r R now (.returned u4) w') := Lib.hid (fun w' hb => ⟨u4, X, [], r', rfl, hX, hle, fun x hx => by simp at hx, hG.below hb, hT.trans (Tch.of_below hb), World.ownsRow.kept hO (grown_below hb none) (by cases u4.ownBlock <;> simp), hN⟩)
      clear hX hle hG hT hO hN
      go_wp2_with fail
      refine F.mono ?_
      rintro e w1 ⟨rfl, b1⟩
      go_wp2_with fail
      go_ret
      exact FIN.out _ (b1.alloc b1.size _)
    | cons x R'' =>
      have F := first_some wr B A Z r' x R'' hG
      by_cases hlate : now < x.t
      · have FIN : Hid (∀ w', Below wr.heap.size wr w' → Dued w B A Z r R now (.returned u4) w') := Lib.hid (fun w' hb => ⟨u4, X, x :: R'', r', rfl, hX, hle, late hG.sorted hlate, hG.below hb, hT.trans (Tch.of_below hb), World.ownsRow.kept hO (grown_below hb none) (by cases u4.ownBlock <;> simp), hN⟩)
        clear hX hle hG hT hO hN
        go_wp2_with fail
        refine F.mono ?_
        rintro e w1 ⟨rfl, b1⟩
        go_wp2_with fail
        go_ret
        exact FIN.out _ (b1.alloc b1.size _)
      · have hle1 : x.t ≤ now := by omega
        have HX := Lib.hid hX
        have HLE := Lib.hid hle
        have HG := Lib.hid hG
        have HT := Lib.hid hT
        have HO := Lib.hid hO
        have HN := Lib.hid hN
        have hOB : Hid (∀ k, u4.ownBlock = some k → w.heap.size ≤ k ∧ k < wr.heap.size) := Lib.hid hO.lt
        clear hX hle hG hT hO hN hlate
        go_wp2_with fail
        refine F.mono ?_
        rintro e w1 ⟨rfl, b1⟩
        go_wp2_with fail
        obtain ⟨w2, hw2⟩ : ∃ w2 : World, w2 = w1.alloc (Obj.cells #[Value.int IntKind.i64 x.t, Value.int IntKind.i64 x.i, Value.int IntKind.i64 x.x] 87) := ⟨_, rfl⟩
        rw [← hw2]
        have b2 : Below wr.heap.size wr w2 := by rw [hw2]; exact b1.alloc b1.size _
        have HO2 : Hid (w2.ownsRow w.heap.size 87 3 u4 X.length (cells X)) := Lib.hid (World.ownsRow.kept HO.out (grown_below b2 none) (by cases u4.ownBlock <;> simp))
        have HOB2 : Hid (∀ k, u4.ownBlock = some k → w.heap.size ≤ k ∧ k < w2.heap.size) := Lib.hid HO2.out.lt
        have HT2 := Lib.hid (HT.out.trans (Tch.of_below b2))
        have HG2 := Lib.hid (HG.out.below b2)
        clear hw2 b1 b2 HO HT HG hOB F
        refine (pop_agd w2 B A Z r' x R'' HG2.out).mono ?_
        rintro e w3 ⟨r3, rfl, g3, t3⟩
        have ta := assert_item x.t x.i x.x
        unfold agg
        have nA : Hid (u4.ownBlock ≠ some A) := Lib.hid (fun e => by have := HOB2.out A e; omega)
        have nr : Hid (u4.ownBlock = none ∨ u4.ownBlock ≠ r3) := Lib.hid (by
          rcases HN.out with e | e
          · exact .inl e
          · rcases t3.own with e3 | ⟨q, e3, hq⟩
            · exact .inr (by rw [e3]; exact e)
            · refine .inr (fun e4 => ?_)
              rw [e3] at e4
              have := (HOB2.out q e4).2
              omega)
        have HO3 : Hid (w3.ownsRow w.heap.size 87 3 u4 X.length (cells X)) := Lib.hid (own_tch HO2.out t3 nA.out HN.out)
        have HT3 := Lib.hid (HT2.out.trans t3)
        have HG3 := Lib.hid g3
        have hXl : Hid (X.length + 1 ≤ R.length) := Lib.hid (by rw [HX.out]; simp)
        have hU : Hid (sliceLen u4 = X.length) := Lib.hid (own_len HO3.out)
        have h1c : ∀ u ∈ [Value.int .i64 x.t, .int .i64 x.i, .int .i64 x.x], u.oneCell' = true := by
          intro u hu
          simp at hu
          rcases hu with rfl | rfl | rfl <;> rfl
        have H1C := Lib.hid h1c
        clear h1c t3 g3 HT2 HG2 HO2 HOB2 HN
        go_wp2_with (at_builtin; refine wpList_append_lies _ rfl (.tmp 21) (.tmp 28) 84 rfl w.heap.size 87 i46 (.agg #[.int .i64 0, .int .i64 0, .int .i64 0]) 3 24 Try.underlying84 hi hz0 hz1 hz2 rfl (by decide) u4 X.length (cells X) rfl (World.ownsRow.alloc HO3.out _) ⟨w3.heap.size, 0, none⟩ 1 1 [.int .i64 x.t, .int .i64 x.i, .int .i64 x.x] rfl rfl (World.news_of_block (cs := #[.int .i64 x.t, .int .i64 x.i, .int .i64 x.x]) (heap_alloc_new w3 _)) H1C.out (by decide) (by have := hXl.out; have := HR.out; unfold maxLen; omega) (by have := hXl.out; have := HR.out; omega) (by have := HT3.out.size; simp; omega) _ rfl ?_; intro g cap w4 ho4 hg4 hat4 _)
        have b3 := (Below.refl w3.heap.size w3).alloc (Nat.le_refl _) (Obj.cells #[Value.int IntKind.i64 x.t, Value.int IntKind.i64 x.i, Value.int IntKind.i64 x.x] 87)
        have HG4 := Lib.hid ((HG3.out.below b3).grown hg4 (fun e => nA.out e.symm) nr.out)
        have HT4 := Lib.hid ((HT3.out.trans (Tch.of_below b3)).grow hg4 (fun k hk => (HO3.out.lt k hk).1))
        have HN4 : Hid ((Value.slice (some ⟨g, 0, none⟩) (X.length + 1) cap).ownBlock = none ∨ (Value.slice (some ⟨g, 0, none⟩) (X.length + 1) cap).ownBlock ≠ r3) := Lib.hid (by
          refine .inr (fun e => ?_)
          have e' : r3 = some g := e.symm
          rcases hat4 with e4 | e4
          · rcases nr.out with q | q
            · rw [q] at e4; cases e4
            · exact q (by rw [e4, e'])
          · have := (HG3.out.lt.2.1 g e').2
            have h5 : (w3.alloc (Obj.cells #[Value.int IntKind.i64 x.t, Value.int IntKind.i64 x.i, Value.int IntKind.i64 x.x] 87)).heap.size = w3.heap.size + 1 := by simp
            omega)
        have HO4 : Hid (w4.ownsRow w.heap.size 87 3 (.slice (some ⟨g, 0, none⟩) (X.length + 1) cap) (X ++ [x]).length (cells (X ++ [x]))) := Lib.hid (by rw [cells_append, List.length_append]; exact ho4)
        have HX4 : Hid (R = (X ++ [x]) ++ R'') := Lib.hid (by rw [HX.out]; simp)
        have HL4 : Hid (∀ y ∈ X ++ [x], y.t ≤ now) := Lib.hid (fun y hy => by
          rcases List.mem_append.1 hy with hy | hy
          · exact HLE.out y hy
          · simp at hy; subst hy; exact hle1)
        clear ho4 hg4 hat4 b3
        go_wp2_with fail
        go_roundw
        case rel => exact ⟨X ++ [x], R'', r3, HX4.out, HL4.out, HG4.out, HT4.out, HO4.out, HN4.out⟩
        case measure =>
          rw [hU.out]
          have := hXl.out
          show R.length - (X.length + 1) < _
          omega
end Go.Proofs.Ytkdaifcnlobhkaa.Ag
