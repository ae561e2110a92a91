/-
  WHAT THE ROWS REST ON, part 18: Brd Bmi.
-/
import Derived.Shelf.Abstract
import Derived.Test.YtggjpallbapcmaaPart17
/-
  The book: Read 13.
-/
namespace Go.Proofs.Ytggjpallbapcmaa.Bk
open Go.RowKit
attribute [local go_sem] Oper.semAt_some
/-- matches of the call's own -/
def OwnM (w : World) (B : Nat) (v : Value) (ms : List Mv) : Prop := w.ownsRow B 70 1 v ms.length (ms.map (·.1)) ∧ ∀ x ∈ ms, OwnN w B x.1 x.2
theorem own_nc {w : World} {B size n l : Nat} {e : TypeId} {v : Value} {xs : List Value} (h : w.ownsRow B e size v n xs) (hn : NC w l) : ∀ q, v.ownBlock = some q → q ≠ l := by
  intro q hq e2
  subst e2
  rcases h.2 with ⟨rfl, _⟩ | ⟨g, cap, cur, rfl, _, hg, _⟩
  · simp [Value.ownBlock] at hq
  · have : g = q := by simpa [Value.ownBlock] using hq
    subst this
    exact hn _ _ _ hg
theorem OwnM.fr {w w' : World} {B : Nat} {v : Value} {ms : List Mv} {P : Nat → Prop} (h : OwnM w B v ms) (f : Fr w w' P) (hP : ∀ q, B ≤ q → q < w.heap.size → (∃ c t, Blk w q t c ∧ (t = 70 ∨ t = 3)) → ¬ P q) : OwnM w' B v ms := by
  refine ⟨Fr.own h.1 f (fun q hq => ?_), fun x hx => (h.2 x hx).fr f (fun q hq => ?_)⟩
  · rcases h.1.2 with ⟨e, _⟩ | ⟨g, cap, cur, e, hb, hg, _⟩
    · rw [e] at hq; simp [Value.ownBlock] at hq
    · rw [e] at hq
      have : g = q := by simpa [Value.ownBlock] using hq
      subst this
      exact hP g hb (Array.getElem?_eq_some_iff.1 hg).1 ⟨_, _, hg, .inl rfl⟩
  · rcases (h.2 x hx).2 with ⟨e, _⟩ | ⟨g, cap, cur, e, hb, hg, _⟩
    · rw [e] at hq; simp [Value.ownBlock] at hq
    · rw [e] at hq
      have : g = q := by simpa [Value.ownBlock] using hq
      subst this
      exact hP g hb (Array.getElem?_eq_some_iff.1 hg).1 ⟨_, _, hg, .inr rfl⟩
/-- what Read answers -/
def Rdd (w : World) (base : Int) (LL : List (List Int)) (from_ most : Int) (e : Ending) (w' : World) : Prop :=
  Below w.heap.size w w' ∧
  ((from_ < 0 ∨ most < 0) ∧ e = .returned (.tuple #[.slice none 0 0, .int .i64 0, .int .i64 1]) ∨
   (0 ≤ from_ ∧ 0 ≤ most) ∧ from_ < base ∧ e = .returned (.tuple #[.slice none 0 0, .int .i64 base, .int .i64 180]) ∨
   (0 ≤ from_ ∧ 0 ≤ most) ∧ base ≤ from_ ∧ ∃ v ms, e = .returned (.tuple #[v, .int .i64 (from_ + (sub base LL from_ most).length), .int .i64 0]) ∧ ms.map (·.2) = sub base LL from_ most ∧ OwnM w' w.heap.size v ms)
theorem read_nil (x y : Int) (w : World) : Calls Try.prog 32 #[.pointer none, .int .i64 x, .int .i64 y] w fun e w' => e = .returned (.tuple #[.slice none 0 0, .int .i64 0, .int .i64 1]) ∧ Below w.heap.size w w' := by
  have BW := Lib.hid ((Below.refl w.heap.size w).alloc (Nat.le_refl _) (.cells #[.slice none 0 0] 35))
  go_enter Try.func32, Try.ntmps32
  go_wp2_with fail
  refine bodyPost_ret (by simp [results, Try.results32, go_sem]; try rfl) rfl ?_
  exact ⟨rfl, BW.out⟩
/-- the loop's state: the result's box, its row, what came -/
structure RdI (w : World) (Wl : Nat) (pre : List Mv) (W : World) : Prop where
  box : ∃ v, Blk W w.heap.size 35 #[v] ∧ OwnM W Wl v pre
  b : Below w.heap.size w W
  n : Wl ≤ W.heap.size
theorem RdI.turn {w A B : World} {Wl : Nat} {pre : List Mv} (h : RdI w Wl pre A) (hw : w.heap.size ≤ Wl) (hn : NC A (Wl + 1)) (f : Fr A B (fun q => q = Wl + 1)) : RdI w Wl pre B := by
  obtain ⟨v, kb, ho⟩ := h.box
  refine ⟨⟨v, kb.fr f (kb.nc hn), ho.fr f (fun q _ _ ⟨c, t, k, _⟩ => k.nc hn)⟩, h.b.trans (f.below (fun q e => by omega) h.b.size), Nat.le_trans h.n f.size⟩
theorem own_form {w : World} {B size n : Nat} {e : TypeId} {v : Value} {xs : List Value} (h : w.ownsRow B e size v n xs) : ∃ a c, v = .slice a n c := by
  rcases h.2 with ⟨rfl, rfl⟩ | ⟨g, cap, cur, rfl, _⟩
  · exact ⟨none, 0, rfl⟩
  · exact ⟨_, cap, rfl⟩
theorem OwnM.drop {w : World} {B B' : Nat} {v : Value} {ms : List Mv} (h : OwnM w B v ms) (hB : B' ≤ B) : OwnM w B' v ms := by
  refine ⟨⟨h.1.1, ?_⟩, fun x hx => (h.2 x hx).drop hB⟩
  rcases h.1.2 with hn | ⟨g, cap, cur, e, hb, r⟩
  · exact .inl hn
  · exact .inr ⟨g, cap, cur, e, Nat.le_trans hB hb, r⟩
theorem own_ty {w : World} {B size n : Nat} {e : TypeId} {v : Value} {xs : List Value} (h : w.ownsRow B e size v n xs) : ∀ q, v.ownBlock = some q → B ≤ q ∧ ∃ c, Blk w q e c := by
  intro q hq
  rcases h.2 with ⟨rfl, _⟩ | ⟨g, cap, cur, rfl, hb, hg, _⟩
  · simp [Value.ownBlock] at hq
  · have : g = q := by simpa [Value.ownBlock] using hq
    subst this
    exact ⟨hb, cur, hg⟩
/-- a match is put behind those that came -/
theorem rd_step {X Wl : Nat} {W2 w3 : World} {v v' u : Value} {pre : List Mv} {xs : List Int} (kb : Blk W2 X 35 #[v]) (ho : OwnM W2 Wl v pre) (hx : OwnN W2 Wl u xs) (hwl : X < Wl)
    (hown : w3.ownsRow Wl 70 1 v' (pre.length + 1) (pre.map (·.1) ++ [u])) (hg : (W2.alloc (.cells #[u] 70)).grownBy w3 v.ownBlock) :
    Blk w3 X 35 #[v] ∧ Blk (w3.setCell ⟨X, 0, none⟩ v') X 35 #[v'] ∧ OwnM (w3.setCell ⟨X, 0, none⟩ v') Wl v' (pre ++ [(u, xs)]) ∧ KeepsOthers W2 (w3.setCell ⟨X, 0, none⟩ v') ∧ Fr W2 (w3.setCell ⟨X, 0, none⟩ v') (fun q => q = X ∨ Wl ≤ q) := by
  have bA : Below W2.heap.size W2 (W2.alloc (.cells #[u] 70)) := (Below.refl _ _).alloc (Nat.le_refl _) _
  have f3 : Fr (W2.alloc (.cells #[u] 70)) w3 (fun q => v.ownBlock = some q) := (Fr.of_grown hg).mono (fun q _ e => e.symm)
  have kbA := kb.next bA
  have hoA : OwnM (W2.alloc (.cells #[u] 70)) Wl v pre := ho.fr (Fr.of_below bA (fun _ => False)) (fun _ _ _ _ h => h)
  have kb3 : Blk w3 X 35 #[v] := kbA.fr f3 (fun e => by
    obtain ⟨_, c, k⟩ := own_ty hoA.1 X e
    exact absurd (kbA.ty k) (by decide))
  have fs := fr_set w3 X 0 v'
  have f23 : Fr W2 w3 (fun q => v.ownBlock = some q) := (Fr.of_below bA _).on f3
  have el : ∀ x : Mv, OwnN W2 Wl x.1 x.2 → OwnN (w3.setCell ⟨X, 0, none⟩ v') Wl x.1 x.2 := fun x h => by
    have h3 : OwnN w3 Wl x.1 x.2 := h.fr f23 (fun q hq e => by
      obtain ⟨_, c, k⟩ := own_ty ho.1 q e
      obtain ⟨_, c2, k2⟩ := own_ty h q hq
      exact absurd (k.ty k2) (by decide))
    exact h3.fr fs (fun q hq e => by have := (own_ty h3 q hq).1; omega)
  refine ⟨kb3, kb3.set 0 v', ⟨?_, fun x hm => ?_⟩, ?_, (f23.mono (fun q _ e => .inr (own_ty ho.1 q e).1)).on (fs.mono (fun q _ e => .inl e))⟩
  · have := Fr.own hown fs (fun q hq e => by have := (own_ty hown q hq).1; omega)
    rw [List.map_append, List.length_append]
    exact this
  · rcases List.mem_append.1 hm with hm | hm
    · exact el x (ho.2 x hm)
    · rw [List.mem_singleton.1 hm]; exact el (u, xs) hx
  · refine ((KeepsOthers.alloc W2 _).trans (KeepsOthers.of_grownBy hg fun j o ej hj => ?_)).trans (KeepsOthers.setCell _ _ _)
    obtain ⟨_, c, k⟩ := own_ty hoA.1 j ej
    rw [show (W2.alloc (.cells #[u] 70)).heap[j]? = _ from k] at hj
    cases hj; rfl
theorem read_bad {w : World} {t : Nat} (base : Int) (LL : List (List Int)) {from_ most : Int} (hb : from_ < 0 ∨ most < 0) : Calls Try.prog 32 #[.pointer (some ⟨t, 0, none⟩), .int .i64 from_, .int .i64 most] w (Rdd w base LL from_ most) := by
  have BW := Lib.hid ((Below.refl w.heap.size w).alloc (Nat.le_refl _) (.cells #[.slice none 0 0] 35))
  have FIN := Lib.hid (fun w' (b : Below w.heap.size w w') => show Rdd w base LL from_ most (.returned (.tuple #[.slice none 0 0, .int .i64 0, .int .i64 1])) w' from ⟨b, .inl ⟨hb, rfl⟩⟩)
  generalize Rdd w base LL from_ most = Q at *
  by_cases h1 : from_ < 0
  · have h1B := decide_eq_true h1
    go_enter Try.func32, Try.ntmps32
    go_wp2_with fail
    refine bodyPost_ret (by simp [results, Try.results32, go_sem]; try rfl) rfl ?_
    exact FIN.out _ BW.out
  · have h2 : most < 0 := by omega
    have h1B := decide_eq_false h1
    have h2B := decide_eq_true h2
    go_enter Try.func32, Try.ntmps32
    go_wp2_with fail
    refine bodyPost_ret (by simp [results, Try.results32, go_sem]; try rfl) rfl ?_
    exact FIN.out _ BW.out
theorem read_gone {w : World} {Bk : Nat → Prop} {t : Nat} {base : Int} {LL : List (List Int)} {from_ most : Int} (h : BookAt w Bk t base LL) (h1 : 0 ≤ from_) (h2 : 0 ≤ most) (h3 : from_ < base) : Calls Try.prog 32 #[.pointer (some ⟨t, 0, none⟩), .int .i64 from_, .int .i64 most] w (Rdd w base LL from_ most) := by
  have BW := Lib.hid (((Below.refl w.heap.size w).alloc (Nat.le_refl _) (.cells #[.slice none 0 0] 35)).drew)
  have FIN := Lib.hid (fun w' (b : Below w.heap.size w w') => show Rdd w base LL from_ most (.returned (.tuple #[.slice none 0 0, .int .i64 base, .int .i64 180])) w' from ⟨b, .inr (.inl ⟨⟨h1, h2⟩, h3, rfl⟩)⟩)
  obtain ⟨v, cs, k, -⟩ := h
  have c0 : w.cell? ⟨t, 0, none⟩ = some (.int .i64 base) := k.cell 0
  have ht := k.lt
  clear k
  generalize Rdd w base LL from_ most = Q at *
  have h1B := decide_eq_false (show ¬ from_ < 0 by omega)
  have h2B := decide_eq_false (show ¬ most < 0 by omega)
  have h3B := decide_eq_true h3
  go_enter Try.func32, Try.ntmps32
  go_wp2_with fail
  go_region
  all_goals go_wp2_with fail
  all_goals refine bodyPost_ret (by simp [results, Try.results32, go_sem]; try rfl) rfl ?_
  all_goals exact FIN.out _ BW.out
theorem newsM {W : World} {u : Value} : ∀ j x, ([u] : List Value)[j]? = some x → (W.alloc (.cells #[u] 70)).cell? ((⟨W.heap.size, 0, none⟩ : Addr).add j) = some x := by
  intro j x hj
  match j, hj with
  | 0, hj => rw [addr_add, (Blk.new W 70 #[u]).cell]; exact hj
set_option maxHeartbeats 8000000 in
set_option maxRecDepth 100000 in
theorem read_ok {w : World} {Bk : Nat → Prop} {t : Nat} {base : Int} {LL : List (List Int)} {from_ most : Int} (h : BookAt w Bk t base LL) (ok : BOk base LL) (hl : ∀ xs ∈ LL, xs.length ≤ 1000) (h1 : 0 ≤ from_) (h2 : 0 ≤ most) (h3 : base ≤ from_) (hf2 : from_ ≤ 9223372036854775807) :
    Calls Try.prog 32 #[.pointer (some ⟨t, 0, none⟩), .int .i64 from_, .int .i64 most] w (Rdd w base LL from_ most) := by
  have FIN := Lib.hid (fun w' v ms (b : Below w.heap.size w w') (e : ms.map (·.2) = sub base LL from_ most) (o : OwnM w' w.heap.size v ms) => show Rdd w base LL from_ most (.returned (.tuple #[v, .int .i64 (from_ + (sub base LL from_ most).length), .int .i64 0])) w' from ⟨b, .inr (.inr ⟨⟨h1, h2⟩, h3, v, ms, rfl, e, o⟩)⟩)
  obtain ⟨w1, hw1⟩ : ∃ w1, w1 = w.alloc (.cells #[.slice none 0 0] 35) := ⟨_, rfl⟩
  have b1 : Below w.heap.size w w1 := by rw [hw1]; exact (Below.refl _ w).alloc (Nat.le_refl _) _
  have k1 : Blk w1 w.heap.size 35 #[.slice none 0 0] := by rw [hw1]; exact Blk.new _ _ _
  have s1 : w1.heap.size = w.heap.size + 1 := by rw [hw1]; simp
  obtain ⟨w2, hw2⟩ : ∃ w2, w2 = ((w1.alloc (.cells #[.pointer (some ⟨t, 0, none⟩)] 76)).alloc (.cells #[.int .i64 from_] 3)).alloc (.cells #[.int .i64 most] 3) := ⟨_, rfl⟩
  have z1 : (w1.alloc (.cells #[.pointer (some ⟨t, 0, none⟩)] 76)).heap.size = w1.heap.size + 1 := by simp
  have z2 : ((w1.alloc (.cells #[.pointer (some ⟨t, 0, none⟩)] 76)).alloc (.cells #[.int .i64 from_] 3)).heap.size = w1.heap.size + 2 := by simp
  have kt1 := Blk.new w1 76 #[.pointer (some ⟨t, 0, none⟩)]
  have kf1 := Blk.new (w1.alloc (.cells #[.pointer (some ⟨t, 0, none⟩)] 76)) 3 #[.int .i64 from_]
  have km1 := Blk.new ((w1.alloc (.cells #[.pointer (some ⟨t, 0, none⟩)] 76)).alloc (.cells #[.int .i64 from_] 3)) 3 #[.int .i64 most]
  have bA := (Below.refl w1.heap.size w1).alloc (Nat.le_refl _) (.cells #[.pointer (some ⟨t, 0, none⟩)] 76)
  have bB := (Below.refl (w1.heap.size + 1) (w1.alloc (.cells #[.pointer (some ⟨t, 0, none⟩)] 76))).alloc (by simp) (.cells #[.int .i64 from_] 3)
  have bC := (Below.refl (w1.heap.size + 2) ((w1.alloc (.cells #[.pointer (some ⟨t, 0, none⟩)] 76)).alloc (.cells #[.int .i64 from_] 3))).alloc (by simp) (.cells #[.int .i64 most] 3)
  rw [z1] at kf1
  rw [z2] at km1
  rw [← hw2] at km1 bC
  have kf2 := kf1.below bC (by omega)
  have kt2 := (kt1.below bB (by omega)).below bC (by omega)
  have b2 : Below w1.heap.size w1 w2 := (bA.trans (bB.mono (by omega))).trans (bC.mono (by omega))
  have s2 : w2.heap.size = w1.heap.size + 3 := by rw [hw2]; simp
  have hB2 := (h.next b1).next b2
  have k2 := k1.next b2
  have hBlt := h
  obtain ⟨v0, cs0, k0, -, -, -, -, hlt⟩ := h
  have Y := yields (Fb := fun q => q = w.heap.size) 4 (by decide) hB2 ok hl h3 hf2 h2 kt2 kf2 km1 (fun q hq e => by have := hlt q hq; omega)
  have b12 := b1.trans (b2.mono b1.size)
  have I0 : RdI w w2.heap.size [] w2 := ⟨⟨_, k2, World.ownsRow_nil _ _ _ _, fun x hx => by simp at hx⟩, b12, Nat.le_refl _⟩
  have hsub : (sub base LL from_ most).length ≤ 64 := by
    have := ok.n
    unfold sub; rw [List.length_take, List.length_drop]; omega
  have hsubF : from_ + (sub base LL from_ most).length ≤ 9223372036854775807 := by
    have := ok.n
    have := ok.b1
    unfold sub
    rw [List.length_take, List.length_drop]
    omega
  have HY := Lib.hid Y
  have HI0 := Lib.hid I0
  have H2 := Lib.hid hw2
  have HW1 := Lib.hid hw1
  have S2 := Lib.hid s2
  have S1 := Lib.hid s1
  have c0 : w1.cell? ⟨t, 0, none⟩ = some (.int .i64 base) := (k0.next b1).cell 0
  have hwl : w.heap.size ≤ w2.heap.size := b12.size
  have hwl2 : w.heap.size + 1 ≤ w2.heap.size := by omega
  clear Y I0 hw2 hw1 s2 s1 z1 z2 kt1 kf1 km1 bA bB bC kf2 kt2 b2 hB2 k2 k0 hlt b12 b1 k1 hBlt ok hl
  obtain ⟨SL, hSL⟩ : ∃ SL, SL = sub base LL from_ most := ⟨_, rfl⟩
  rw [← hSL] at HY FIN hsub hsubF
  clear hSL
  generalize Rdd w base LL from_ most = Q at *
  have h1B := decide_eq_false (show ¬ from_ < 0 by omega)
  have h2B := decide_eq_false (show ¬ most < 0 by omega)
  have h3B := decide_eq_false (show ¬ from_ < base by omega)
  obtain ⟨i0, hi, hz0, hz1, hz2⟩ := info_parts info37
  refine (callsIn_wide (n := 5)).1 ?_
  refine callsIn_of_wp_marks Try.func32 rfl trivial ?_ rfl
  simp only [Try.ntmps32, List.size_toArray, List.length_cons, List.length_nil, Nat.reduceAdd, Nat.reduceSub, Array.replicate_succ, Array.replicate_zero, List.push_toArray, List.append_toArray, List.nil_append, List.cons_append]
  gi_wp2_with (rw [← HW1.out])
  refine ⟨trivial, ?_⟩
  refine ((callsIn_wide (n := 4)).2 ((callsIn_wide (n := 3)).1 (behind_any t from_ most))).mono ?_
  rintro e w' ⟨rfl, rfl⟩
  rw [← H2.out]
  gi_wp2
  refine range_law (m := 5) (by decide) rfl (Go.Proofs.enters_of Try.func81 (by kernel_rfl) rfl) HY.out rfl (RdI w w2.heap.size) (fun s A B i nc f => i.turn hwl nc f) HI0.out ?round ?done
  case round =>
    intro l pre x W hI hx hG hlt hnc
    obtain ⟨u, xs⟩ := x
    simp only at hx
    obtain ⟨v, kb, ho⟩ := hI.box
    obtain ⟨au, cu, rfl, -⟩ := hx.nums
    obtain ⟨va, vc, rfl⟩ := own_form ho.1
    have hpl : pre.length ≤ 64 := by
      have := hG.length_le
      simp at this
      omega
    have k9 := Blk.new W 70 #[.slice au xs.length cu]
    have fA : Fr W (W.alloc (.cells #[.slice au xs.length cu] 70)) (fun q => W.heap.size ≤ q) := (Fr.refl W _).al _
    have KK := Lib.hid (KeepsOthers.alloc W (.cells #[.slice au xs.length cu] 70))
    have kbA := kb.fr fA (by have := kb.lt; omega)
    have hoA := ho.fr fA (fun q _ h _ => by omega)
    have hxA := hx.fr fA (fun q hq => by have := (hx.ge q hq).2; omega)
    have HI := Lib.hid hI
    have K9 := Lib.hid k9
    have KB := Lib.hid kbA
    have HO := Lib.hid hoA
    have HX := Lib.hid hxA
    have FA := Lib.hid fA
    clear k9 kbA hoA hxA fA kb ho hx hI HY HI0 FIN HW1 H2 S2 S1 c0
    generalize hW1 : W.alloc (.cells #[.slice au xs.length cu] 70) = W1 at K9 KB HO HX FA KK
    have HW1' := Lib.hid hW1
    clear hW1
    dsimp only [encM]
    gi_wp2
    rw [HW1'.out]
    refine ⟨KK.out, ?_⟩
    intro W2 f2 n1 n2
    have k9 := K9.out.fr f2 (K9.out.nc n1)
    have kb2 := KB.out.fr f2 (KB.out.nc n1)
    have ho2 := HO.out.fr f2 (fun q _ _ ⟨c, t, k, _⟩ => k.nc n1)
    have hx2 := HX.out.fr f2 (own_nc HX.out n1)
    have F2 := Lib.hid ((FA.out.mono (Q := fun q => q = w.heap.size ∨ w2.heap.size ≤ q) (fun q _ h => .inr (Nat.le_trans HI.out.n h))).on (f2.mono (fun q _ h => .inr (by omega))))
    have z9 : W2.cell? ⟨W.heap.size, 0, none⟩ = some (.slice au xs.length cu) := k9.cell 0
    have zb : W2.cell? ⟨w.heap.size, 0, none⟩ = some (.slice va pre.length vc) := kb2.cell 0
    have hW2n : w2.heap.size ≤ W2.heap.size := Nat.le_trans HI.out.n F2.out.size
    have KB2 := Lib.hid kb2
    have HO2 := Lib.hid ho2
    have HX2 := Lib.hid hx2
    have HIb := Lib.hid HI.out.b
    clear k9 kb2 ho2 hx2 f2 n1 n2 K9 KB HO HX FA KK HI HW1'
    gi_wp2_with (gi_at_builtin; refine wpListIn_append_own _ rfl _ _ 35 rfl w2.heap.size 70 i0 (.agg #[.slice none 0 0]) 1 24 Try.underlying35 hi hz0 hz1 hz2 rfl (by decide) _ pre.length (pre.map (·.1)) rfl (HO2.out.1.alloc _) ⟨W2.heap.size, 0, none⟩ 1 1 [.slice au xs.length cu] rfl rfl newsM (by simp [Value.oneCell']) (by unfold maxLen; omega) (by omega) (by simp; omega) ?_; intro v' w3 hown hgrow _; obtain ⟨g', cap', rfl⟩ := ownsRow_succ hown; obtain ⟨r1, r2, r3, r4, r5⟩ := rd_step KB2.out HO2.out HX2.out hwl2 hown hgrow; have R1 := r1.cell 0; have R1f := r1.free 0; have R2 := Lib.hid r2; have R3 := Lib.hid r3; have R4 := Lib.hid r4; have R5 := Lib.hid r5; clear r1 r2 r3 r4 r5 hown hgrow)
    exact ⟨R4.out, F2.out.on R5.out, ⟨⟨_, R2.out, R3.out⟩, HIb.out.trans ((F2.out.on R5.out).below (fun q h => by rcases h with rfl | h <;> omega) HIb.out.size), Nat.le_trans hW2n R5.out.size⟩⟩
  case done =>
    intro ms W hS hI hD
    obtain ⟨v, kb, ho⟩ := hI.box
    obtain ⟨va, vc, rfl⟩ := own_form ho.1
    have hml : ms.length = SL.length := by rw [← hS, List.length_map]
    have hb := hI.b
    have HD := Lib.hid hD
    have KB := Lib.hid kb
    have HO := Lib.hid ho
    have HB := Lib.hid hb
    rw [hml] at KB
    have z6 : W.cell? ⟨w.heap.size, 0, none⟩ = some (.slice va SL.length vc) := KB.out.cell 0
    have f6 : W.frozen? ⟨w.heap.size, 0, none⟩ = false := KB.out.free 0
    have hw0 : ¬ (9223372036854775807 < from_ + (SL.length : Int)) := by omega
    clear hD kb ho hb hI HY HI0 HW1 H2 c0 S1 S2
    gi_wp2
    have f7 := fr_set W w.heap.size 0 (.slice va SL.length vc)
    have K7 := KB.out.set 0 (.slice va SL.length vc)
    have D7 := (KeepsOthers.setCell W ⟨w.heap.size, 0, none⟩ (.slice va SL.length vc)).same _ _ HD.out rfl
    have O7 := HO.out.fr f7 (fun q h _ e => by omega)
    have B7 := HB.out.setCell (p := ⟨w.heap.size, 0, none⟩) (Nat.le_refl _) (.slice va SL.length vc)
    generalize W.setCell ⟨w.heap.size, 0, none⟩ (.slice va SL.length vc) = W7 at *
    have nc7 : NC W7 w2.heap.size := fun c t z e => by rw [D7] at e; cases e
    have f8 := fr_putObj W7 w2.heap.size (.deferred none)
    have K8 := K7.fr f8 (K7.nc nc7)
    have O8 := (O7.fr f8 (fun q _ _ ⟨c, t, k, _⟩ => k.nc nc7)).drop hwl
    have B8 := B7.trans (f8.below (B := w.heap.size) (fun q e => by omega) B7.size)
    refine ⟨by simp, .inl ⟨_, _, rfl, run_takeDeferred D7, ?_⟩⟩
    have y0 := K8.cell 0
    refine ⟨_, (by simp [results, Try.results32, go_sem, y0]; try rfl), ?_⟩
    rw [hml] at O8
    exact FIN.out _ _ ms B8 hS O8
end Go.Proofs.Ytggjpallbapcmaa.Bk
/-
  A book of the call's own; the page's example.
-/
namespace Go.Proofs.Ytggjpallbapcmaa.Bk
open Go.RowKit
theorem bok_pt {base : Int} {LL : List (List Int)} (h : BOk base LL) (xs : List Int) : BOk (ptS base LL xs).1 (ptS base LL xs).2 := by
  have h0 := h.b0
  have h1 := h.b1
  have h2 := h.n
  unfold ptS
  by_cases hE : ptE base LL xs = 0
  · have hlt : base + LL.length < 549755813888 := by
      unfold ptE at hE
      by_cases hm : mayB xs = true
      · rw [if_pos hm] at hE
        by_cases hc : 549755813888 ≤ base + LL.length
        · rw [if_pos hc] at hE; exact absurd hE (by decide)
        · omega
      · rw [if_neg hm] at hE; exact absurd hE (by decide)
    rw [if_pos hE]
    by_cases h64 : LL.length = 64
    · rw [if_pos h64]
      refine ⟨by simp only; omega, ?_, ?_⟩
      · simp only [List.length_append, List.length_drop, List.length_cons, List.length_nil]; omega
      · simp only [List.length_append, List.length_drop, List.length_cons, List.length_nil]; omega
    · rw [if_neg h64]
      refine ⟨h0, ?_, ?_⟩
      · simp only [List.length_append, List.length_cons, List.length_nil]; omega
      · simp only [List.length_append, List.length_cons, List.length_nil]; omega
  · rw [if_neg hE]; exact h
theorem bok_fg {base : Int} {LL : List (List Int)} (h : BOk base LL) (b : Int) : BOk (fgS base LL b).1 (fgS base LL b).2 := by
  have h0 := h.b0
  have h1 := h.b1
  have h2 := h.n
  unfold fgS
  by_cases hc : b < 0 ∨ base + LL.length < b ∨ b ≤ base
  · rw [if_pos hc]; exact h
  · rw [if_neg hc]
    refine ⟨by simp only; omega, ?_, ?_⟩
    · simp only [List.length_drop]; omega
    · simp only [List.length_drop]; omega
/-- each match may be -/
def Shr (LL : List (List Int)) : Prop := ∀ xs ∈ LL, mayB xs = true
theorem upB_all : ∀ {l : List Int} {z : Int}, upB z l = true → ∀ x ∈ l, z < x ∧ x ≤ 549755813888
  | [], _, _, x, hx => by simp at hx
  | y :: r, z, h, x, hx => by
    unfold upB at h
    simp only [Bool.and_eq_true, Bool.not_eq_true', Bool.or_eq_false_iff, decide_eq_false_iff_not] at h
    obtain ⟨⟨h1, h2⟩, h3⟩ := h
    rcases List.mem_cons.1 hx with rfl | hx
    · omega
    · have := upB_all h3 x hx; omega
theorem mayB_len {xs : List Int} (h : mayB xs = true) : 1 ≤ xs.length ∧ xs.length ≤ 16 := by
  unfold mayB at h
  simp only [Bool.and_eq_true, Bool.not_eq_true', Bool.or_eq_false_iff, decide_eq_false_iff_not] at h
  omega
theorem mayB_all {xs : List Int} (h : mayB xs = true) : ∀ x ∈ xs, 0 ≤ x ∧ x ≤ 549755813888 := by
  unfold mayB at h
  simp only [Bool.and_eq_true] at h
  intro x hx
  have := upB_all h.2 x hx
  omega
theorem Shr.short {LL : List (List Int)} (h : Shr LL) : ∀ xs ∈ LL, xs.length ≤ 1000 := fun xs hx => by have := mayB_len (h xs hx); omega
theorem shr_pt {base : Int} {LL : List (List Int)} (h : Shr LL) (xs : List Int) : Shr (ptS base LL xs).2 := by
  unfold ptS
  by_cases hE : ptE base LL xs = 0
  · have hm : mayB xs = true := by
      unfold ptE at hE
      by_cases hm : mayB xs = true
      · exact hm
      · rw [if_neg hm] at hE; exact absurd hE (by decide)
    have hd : ∀ ys ∈ LL.drop 1 ++ [xs], mayB ys = true := fun ys hy => by
      rcases List.mem_append.1 hy with hy | hy
      · exact h ys (List.mem_of_mem_drop hy)
      · rw [List.mem_singleton.1 hy]; exact hm
    have ha : ∀ ys ∈ LL ++ [xs], mayB ys = true := fun ys hy => by
      rcases List.mem_append.1 hy with hy | hy
      · exact h ys hy
      · rw [List.mem_singleton.1 hy]; exact hm
    rw [if_pos hE]
    split
    · exact hd
    · exact ha
  · rw [if_neg hE]; exact h
theorem shr_fg {base : Int} {LL : List (List Int)} (h : Shr LL) (b : Int) : Shr (fgS base LL b).2 := by
  unfold fgS
  split
  · exact h
  · exact fun ys hy => h ys (List.mem_of_mem_drop hy)
/-- a book of the call's own, behind B -/
def Mine (w0 : World) (B t : Nat) (base : Int) (LL : List (List Int)) (w : World) : Prop := ∃ Bk, BookAt w Bk t base LL ∧ BOk base LL ∧ Shr LL ∧ (∀ q, Bk q → B ≤ q) ∧ Below B w0 w ∧ B ≤ w.heap.size
section
variable {w0 w w' : World} {B t : Nat} {base : Int} {LL : List (List Int)}
theorem Mine.next (h : Mine w0 B t base LL w) (b : Below w.heap.size w w') : Mine w0 B t base LL w' := by
  obtain ⟨Bk, hb, ok, sh, hB, hw, hs⟩ := h
  exact ⟨Bk, hb.next b, ok, sh, hB, hw.trans (b.mono hs), Nat.le_trans hs b.size⟩
theorem Mine.bel (h : Mine w0 B t base LL w) : Below B w0 w := by
  obtain ⟨Bk, hb, ok, sh, hB, hw, hs⟩ := h
  exact hw
theorem Mine.ok (h : Mine w0 B t base LL w) : BOk base LL := by
  obtain ⟨Bk, hb, ok, sh, hB, hw, hs⟩ := h
  exact ok
theorem mine_new (hb : Below B w0 w) (hB : B ≤ w.heap.size) : Calls Try.prog 28 #[] w fun e w' => e = .returned (.pointer (some ⟨w.heap.size, 0, none⟩)) ∧ Mine w0 B w.heap.size 0 [] w' := by
  refine (new_any w).mono ?_
  rintro e w' ⟨rfl, T, b⟩
  exact ⟨rfl, _, T, ⟨by decide, by decide, by decide⟩, fun _ h => by simp at h, fun q hq => by rw [hq]; exact hB, hb.trans (b.mono hB), Nat.le_trans hB b.size⟩
theorem Mine.put (h : Mine w0 B t base LL w) {a : Option Addr} {xs : List Int} (c : Nat) (hn : Nums w a xs) (hl : xs.length ≤ 1000) :
    Calls Try.prog 31 #[.pointer (some ⟨t, 0, none⟩), .agg #[.slice a xs.length c]] w fun e w' => e = .returned (.int .i64 (ptE base LL xs)) ∧ Mine w0 B t (ptS base LL xs).1 (ptS base LL xs).2 w' := by
  obtain ⟨Bk, hb, ok, sh, hB, hw, hs⟩ := h
  refine (put_any c hb ok hn hl).mono ?_
  rintro e w' ⟨rfl, Bk', hb', f, m1, m2⟩
  have hm : ∀ q, Bk' q → B ≤ q := fun q hq => by
    rcases m2 q hq with h | h
    · exact hB q h
    · omega
  exact ⟨rfl, Bk', hb', bok_pt ok xs, shr_pt sh xs, hm, hw.trans (f.below hB hs), Nat.le_trans hs f.size⟩
theorem Mine.forget (h : Mine w0 B t base LL w) (b : Int) : Calls Try.prog 33 #[.pointer (some ⟨t, 0, none⟩), .int .i64 b] w fun e w' => e = .returned (.int .i64 (fgE base LL b)) ∧ Mine w0 B t (fgS base LL b).1 (fgS base LL b).2 w' := by
  obtain ⟨Bk, hb, ok, sh, hB, hw, hs⟩ := h
  refine (forget_any b hb ok).mono ?_
  rintro e w' ⟨rfl, hb', f⟩
  exact ⟨rfl, Bk, hb', bok_fg ok b, shr_fg sh b, hB, hw.trans (f.below hB hs), Nat.le_trans hs f.size⟩
theorem Mine.end_ (h : Mine w0 B t base LL w) : Calls Try.prog 64 #[.pointer (some ⟨t, 0, none⟩)] w fun e w' => e = .returned (.int .i64 (base + LL.length)) ∧ Mine w0 B t base LL w' := by
  have h0 := h
  obtain ⟨Bk, hb, ok, sh, hB, hw, hs⟩ := h
  refine (end_any hb ok.b0 (by have := ok.b1; omega) (by have := ok.n; omega)).mono ?_
  rintro e w' ⟨rfl, b⟩
  exact ⟨rfl, h0.next b⟩
theorem Mine.read (h : Mine w0 B t base LL w) (x y : Int) (hx : x ≤ 9223372036854775807) : Calls Try.prog 32 #[.pointer (some ⟨t, 0, none⟩), .int .i64 x, .int .i64 y] w fun e w' => Rdd w base LL x y e w' ∧ Mine w0 B t base LL w' := by
  have h0 := h
  obtain ⟨Bk, hb, ok, sh, hB, hw, hs⟩ := h
  have fin : ∀ e w', Rdd w base LL x y e w' → Rdd w base LL x y e w' ∧ Mine w0 B t base LL w' := fun e w' hr => ⟨hr, h0.next hr.1⟩
  by_cases h1 : x < 0 ∨ y < 0
  · exact (read_bad base LL h1).mono fin
  · by_cases h2 : x < base
    · exact (read_gone hb (by omega) (by omega) h2).mono fin
    · exact (read_ok hb ok sh.short (by omega) (by omega) (by omega) hx).mono fin
end
theorem nums_one (w : World) (i : Int) : Nums (w.alloc (.cells #[.int .i64 i] 3)) (some ⟨w.heap.size, 0, none⟩) [i] := fun j hj => by
  have hj0 : j = 0 := by simpa using hj
  subst hj0
  exact ⟨w.heap.size, 0, rfl, by simp, (Blk.new w 3 #[.int .i64 i]).cell 0⟩
theorem OwnM.at_ {w : World} {B : Nat} {v : Value} {ms : List Mv} (h : OwnM w B v ms) {k : Nat} (hk : k < ms.length) : ∃ g c g2 c2, v = .slice (some ⟨g, 0, none⟩) ms.length c ∧ g < w.heap.size ∧ w.cell? ⟨g, k, none⟩ = some (.slice g2 ms[k].2.length c2) ∧ Nums w g2 ms[k].2 := by
  obtain ⟨a2, c2, e2, n2⟩ := (h.2 ms[k] (List.getElem_mem hk)).nums
  have h0 := h.1
  rcases h.1.2 with ⟨rfl, e⟩ | ⟨g, cap, cur, rfl, hb, hg, _⟩
  · omega
  · refine ⟨g, cap, a2, c2, rfl, (Array.getElem?_eq_some_iff.1 hg).1, ?_, n2⟩
    rw [h0.cellAt _ (by omega)]
    rw [List.getElem?_map, List.getElem?_eq_getElem hk, ← e2]
    rfl
theorem OwnM.form {w : World} {B : Nat} {v : Value} {ms : List Mv} (h : OwnM w B v ms) : ∃ a c, v = .slice a ms.length c := own_form h.1
theorem ms_one {ms : List Mv} {xs : List Int} (h : ms.map (·.2) = [xs]) : ∃ u, ms = [(u, xs)] := by
  match ms, h with
  | [(u, ys)], h => exact ⟨u, by simp at h; rw [h]⟩
theorem rdd_ok {w w' : World} {base : Int} {LL : List (List Int)} {x y : Int} {e : Ending} (h : Rdd w base LL x y e w') (hx : 0 ≤ x) (hy : 0 ≤ y) (hb : base ≤ x) :
    ∃ v ms, e = .returned (.tuple #[v, .int .i64 (x + (sub base LL x y).length), .int .i64 0]) ∧ ms.map (fun z : Mv => z.2) = sub base LL x y ∧ OwnM w' w.heap.size v ms ∧ Below w.heap.size w w' := by
  rcases h.2 with ⟨h1, _⟩ | ⟨_, h1, _⟩ | ⟨_, _, v, ms, r1, r2, r3⟩
  · omega
  · omega
  · exact ⟨v, ms, r1, r2, r3, h.1⟩
theorem rdd_gone {w w' : World} {base : Int} {LL : List (List Int)} {x y : Int} {e : Ending} (h : Rdd w base LL x y e w') (hx : 0 ≤ x) (hy : 0 ≤ y) (hb : x < base) :
    e = .returned (.tuple #[.slice none 0 0, .int .i64 base, .int .i64 180]) ∧ Below w.heap.size w w' := by
  rcases h.2 with ⟨h1, _⟩ | ⟨_, h1, r⟩ | ⟨_, h1, _⟩
  · omega
  · exact ⟨r, h.1⟩
  · omega
theorem rdd_bad {w w' : World} {base : Int} {LL : List (List Int)} {x y : Int} {e : Ending} (h : Rdd w base LL x y e w') (hy : x < 0 ∨ y < 0) :
    e = .returned (.tuple #[.slice none 0 0, .int .i64 0, .int .i64 1]) ∧ Below w.heap.size w w' := by
  rcases h.2 with ⟨_, r⟩ | ⟨h1, _⟩ | ⟨h1, _⟩
  · exact ⟨r, h.1⟩
  · omega
  · omega
/-- matches of one pick, that rise -/
def rowI (base : Int) (n : Nat) : List (List Int) := (List.range n).map (fun (i : Nat) => [base + (i : Int)])
theorem rowI_len (base : Int) (n : Nat) : (rowI base n).length = n := by simp [rowI]
theorem rowI_get (base : Int) (n i : Nat) (h : i < (rowI base n).length) : (rowI base n)[i] = [base + (i : Int)] := by simp [rowI]
theorem rowI_snoc (base : Int) (n : Nat) : rowI base n ++ [[base + (n : Int)]] = rowI base (n + 1) := by simp [rowI, List.range_succ]
theorem rowI_drop (base : Int) (n k : Nat) : (rowI base n).drop k = rowI (base + (k : Int)) (n - k) := by
  apply List.ext_getElem
  · simp [rowI]
  · intro i h1 h2
    rw [List.getElem_drop, rowI_get, rowI_get]
    congr 1
    omega
theorem rowI_take (base : Int) (n k : Nat) : (rowI base n).take k = rowI base (min k n) := by
  apply List.ext_getElem
  · simp [rowI]
  · intro i h1 h2
    rw [List.getElem_take, rowI_get, rowI_get]
theorem may_one {c : Int} (h0 : 0 ≤ c) (h1 : c ≤ 549755813888) : mayB [c] = true := by
  unfold mayB upB upB
  simp only [List.length_cons, List.length_nil]
  rw [decide_eq_false (show ¬ (0 + 1 < 1) by omega), decide_eq_false (show ¬ (16 < 0 + 1) by omega), decide_eq_false (show ¬ c ≤ -1 by omega), decide_eq_false (show ¬ 549755813888 < c by omega)]
  rfl
theorem pt_row {base : Int} {n : Nat} (h0 : 0 ≤ base) (hn : n ≤ 64) (hm : base + (n : Int) < 549755813888) : ptE base (rowI base n) [base + (n : Int)] = 0 ∧
    ptS base (rowI base n) [base + (n : Int)] = if n = 64 then (base + 1, rowI (base + 1) 64) else (base, rowI base (n + 1)) := by
  have hE : ptE base (rowI base n) [base + (n : Int)] = 0 := by
    unfold ptE
    rw [if_pos (may_one (by omega) (by omega)), rowI_len, if_neg (by omega)]
  refine ⟨hE, ?_⟩
  unfold ptS
  rw [if_pos hE, rowI_len]
  by_cases h64 : n = 64
  · subst h64
    rw [if_pos rfl, if_pos rfl, rowI_drop]
    have := rowI_snoc (base + 1) 63
    rw [show base + 1 + ((63 : Nat) : Int) = base + ((64 : Nat) : Int) by omega] at this
    exact congrArg (Prod.mk (base + 1)) this
  · rw [if_neg h64, if_neg h64, rowI_snoc]
theorem BN1 (W : World) (o : Obj) : Below W.heap.size W (W.alloc o) := (Below.refl W.heap.size W).alloc (Nat.le_refl _) o
end Go.Proofs.Ytggjpallbapcmaa.Bk
