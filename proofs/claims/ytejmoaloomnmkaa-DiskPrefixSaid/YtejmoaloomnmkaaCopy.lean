/-
  A COPY OF FILES.
-/
import Derived.Test.YtejmoaloomnmkaaDk
import Derived.Maps.RangeWalk
import Derived.WalkSpells
namespace Go.Proofs.Ytejmoaloomnmkaa
open Go.RowKit
theorem own_empty (w : World) : (w.alloc (Obj.cells #[] 5)).ownsRow w.heap.size 5 1 (.slice (some ⟨w.heap.size, 0, none⟩) 0 0) 0 [] :=
  ⟨rfl, .inr ⟨w.heap.size, 0, #[], rfl, Nat.le_refl _, heap_alloc_new w _, Nat.le_refl _, Nat.zero_le _, rfl, rfl⟩⟩
def Cloned (w : World) (l : List UInt8) (e : Ending) (w' : World) : Prop := ∃ a c, e = .returned (.slice a l.length c) ∧ w'.ownsRow w.heap.size 5 1 (.slice a l.length c) l.length (bcells l) ∧ Below w.heap.size w w'
set_option maxRecDepth 100000 in
theorem clone_any {w : World} {B : Nat} {v : Value} {l : List UInt8} (h : w.ownsRow B 5 1 v l.length (bcells l)) (hl : l.length ≤ 4194304) : Calls Try.prog 49 #[v] w (Cloned w l) := by
  obtain ⟨i5, hi, hz0, hz1, hz2⟩ := info_parts info5
  rcases h.2 with ⟨rfl, e⟩ | ⟨g, cap, cur, rfl, h4⟩
  · have e0 : l = [] := List.eq_nil_of_length_eq_zero e
    subst e0
    have hnl := Lib.run_eql_slice_nil (P := Try.prog) w 55 5 none 0 0 0 0 Try.underlying55
    clear h e
    go_enter Try.func49, Try.ntmps49
    go_wp2_with fail
    go_ret
    exact ⟨none, 0, rfl, World.ownsRow_nil _ _ _ _, Below.refl _ _⟩
  · have hg : g < w.heap.size := (World.ownsRow.lt h g rfl).2
    have ea : ∀ j, (⟨g, 0, none⟩ : Addr).add j = ⟨g, j, none⟩ := fun j => by unfold Addr.add; split <;> simp_all
    have HN : Hid (∀ j u, (bcells l)[j]? = some u → (w.alloc (Obj.cells #[] 5)).cell? ((⟨g, 0, none⟩ : Addr).add j) = some u) := Lib.hid (fun j u hj => by
      have hj' : j < l.length := by have := (List.getElem?_eq_some_iff.1 hj).1; rw [bcells_len] at this; exact this
      have hcc := World.ownsRow.cellAt h j (by omega)
      rw [ea, World.cell?_alloc_lt _ _ _ hg, hcc]
      exact hj)
    have H1 : Hid (∀ u ∈ bcells l, u.oneCell' = true) := Lib.hid (by
      intro u hu
      unfold bcells at hu
      obtain ⟨b, _, rfl⟩ := List.mem_map.1 hu
      rfl)
    have HLEN : Hid ((bcells l).length = l.length * 1) := Lib.hid (by rw [bcells_len]; omega)
    have O0 := Lib.hid (own_empty w)
    have B0 := Lib.hid ((Below.refl w.heap.size w).alloc (Nat.le_refl _) (Obj.cells #[] 5))
    have FIN : Hid (∀ v' w', w'.ownsRow w.heap.size 5 1 v' (0 + l.length) ([] ++ bcells l) → (w.alloc (Obj.cells #[] 5)).grownBy w' (some w.heap.size) → Cloned w l (.returned v') w') := Lib.hid (fun v' w' ho hg2 => by
      rw [Nat.zero_add, List.nil_append] at ho
      obtain ⟨a, c, rfl⟩ := own_form ho
      exact ⟨a, c, rfl, ho, B0.out.trans ⟨hg2.os, hg2.tape, hg2.output, hg2.size, fun q hq => hg2.block q (by simp; omega) (by simp; omega)⟩⟩)
    clear h h4 ea
    generalize l.length = n at *
    have hnl := Lib.run_eql_slice_nil (P := Try.prog) w 55 5 (some ⟨g, 0, none⟩) n cap 0 0 Try.underlying55
    go_enter Try.func49, Try.ntmps49
    go_wp2_with (at_builtin; refine wpList_append_own _ rfl (.tmp 5) (.tmp 6) 55 rfl w.heap.size 5 i5 (.int .u8 0) 1 1 Try.underlying55 hi hz0 hz1 hz2 rfl (by decide) (.slice (some ⟨w.heap.size, 0, none⟩) 0 0) 0 [] rfl O0.out ⟨g, 0, none⟩ n cap (bcells l) rfl HLEN.out HN.out H1.out (by unfold maxLen; omega) (by omega) (by simp) ?_; intro v' w4 ho4 hg4 _)
    have F4 := Lib.hid (FIN.out _ _ ho4 hg4)
    clear ho4 hg4
    go_wp2_with fail
    go_ret
    exact F4.out
/-- what has been copied: what is not left to come -/
def Got (fs fs' : Fm) (left : Lit → Bool) : Prop := ∀ s, get fs' s = if left (key s) then none else get fs s
theorem inv_key (kv : Value) (kl : Lit) (h : keyOf Try.prog 9 kv = some kl) : ∃ x, kv = .string x := by
  cases kv <;> simp [keyOf, mapKey, Try.underlying9] at h
  exact ⟨_, rfl⟩
theorem inv_key2 {x : Nm} {kl : Lit} (h : keyOf Try.prog 9 (.string x) = some kl) : kl = key x ∧ x.size ≤ maxLen := by
  simp [keyOf, mapKey, Try.underlying9] at h
  exact ⟨h.2.symm, h.1⟩
theorem got_next {fs fs' : Fm} {left : Lit → Bool} {x : Nm} (h : Got fs fs' left) (hx : get fs x = some (gl fs x)) : Got fs (put fs' x (gl fs x)) (fun z => left z && !z.sameKey (key x)) := by
  intro s
  by_cases e : s = x
  · subst e
    rw [get_put_same]
    have e1 := WideAt.sameKey_self (isKey s)
    simp only [e1]
    simp [hx]
  · rw [get_put_other _ e, h s]
    have e1 := Maps.sameKey_ne (key_ne e)
    simp only [e1]
    simp
theorem own_mono {w : World} {B B' : Nat} {v : Value} {n : Nat} {xs : List Value} (h : w.ownsRow B 5 1 v n xs) (hB : B' ≤ B) : w.ownsRow B' 5 1 v n xs := by
  refine ⟨h.1, ?_⟩
  rcases h.2 with hn | ⟨g, cap, cur, e, hg, rest⟩
  · exact .inl hn
  · exact .inr ⟨g, cap, cur, e, Nat.le_trans hB hg, rest⟩
theorem Fls.base {w : World} {B B' M n : Nat} {fs : Fm} {V : Nm → Value} (h : Fls w B M n fs V) (hB : B' ≤ B) : Fls w B' M n fs V :=
  ⟨h.map, fun s => own_mono (h.own s) hB, h.apart, Nat.le_trans hB h.off.1, h.off.2⟩
/-- while a copy is made: w1 is the world behind the first block, Y2 the result's -/
structure Cop (w wq : World) (M' n' m cnt Y3 r M n : Nat) (D : DataW Value) (fs fs' : Fm) (left : Lit → Bool) (V' : Nm → Value) : Prop where
  b : Below w.heap.size w wq
  f : Fls wq (w.heap.size + 1) M' n' fs' V'
  y2 : Blk wq w.heap.size 50 #[.map none, .int .i64 0]
  y : Blk wq Y3 50 #[.map (some M'), .int .i64 (sz fs')]
  yf : ¬ Foot M' V' Y3 ∧ w.heap.size < Y3
  rg : wq.ranges Try.prog 9 Rv M r n D left cnt
  rf : ¬ Foot M' V' r ∧ r ≠ Y3 ∧ w.heap.size < r
  ml : M < w.heap.size
  g : Good fs' n'
  got : Got fs fs' left
  cnt : n' + cnt ≤ m
/-- the iterator goes on -/
theorem Cop.step {w wq wq' : World} {M' n' m cnt cnt' Y3 r M n : Nat} {D : DataW Value} {fs fs' : Fm} {left left' : Lit → Bool} {V' : Nm → Value} (h : Cop w wq M' n' m cnt Y3 r M n D fs fs' left V') (hg : wq.grownBy wq' (some r)) (_hr : wq'.ranges Try.prog 9 Rv M r n D left' cnt') :
    Fls wq' (w.heap.size + 1) M' n' fs' V' ∧ Blk wq' w.heap.size 50 #[.map none, .int .i64 0] ∧ Blk wq' Y3 50 #[.map (some M'), .int .i64 (sz fs')] ∧ Below w.heap.size w wq' := by
  have F := Fr.of_grown hg
  have hl := h.rf.2.2
  refine ⟨h.f.fr F (fun q hq e => h.rf.1 (by have := Option.some.inj e; rw [← this]; exact hq)), h.y2.fr F (fun e => by have := Option.some.inj e; omega), h.y.fr F (fun e => h.rf.2.1 (Option.some.inj e).symm), h.b.trans ⟨hg.os, hg.tape, hg.output, hg.size, fun q hq => hg.block q (Nat.lt_of_lt_of_le hq h.b.size) (fun e => by have := Option.some.inj e; omega)⟩⟩
theorem ranges_same {w w' : World} {M r n cnt : Nat} {D : DataW Value} {left : Lit → Bool} (h : w.ranges Try.prog 9 Rv M r n D left cnt) (hM : w'.heap[M]? = w.heap[M]?) (hr : w'.heap[r]? = w.heap[r]?) : w'.ranges Try.prog 9 Rv M r n D left cnt := by
  obtain ⟨es, clock, since, seen, c0, hb, F, hs, hD, hr2, rest⟩ := h
  exact ⟨es, clock, since, seen, c0, hM.trans hb, F, hs, hD, hr.trans hr2, rest⟩
/-- behind a round -/
theorem Cop.next {w wr w4 w5 w6 : World} {M' n' m cnt cnt' Y3 r M n : Nat} {D : DataW Value} {fs fs' : Fm} {left : Lit → Bool} {V' : Nm → Value} {x : Nm} {a : Option Addr} {c : Nat} {e : Ending} (h : Cop w wr M' n' m cnt Y3 r M n D fs fs' left V') (hlt : cnt' < cnt) (hgr : wr.grownBy w4 (some r)) (hz : w4.heap.size = wr.heap.size) (hrg : w4.ranges Try.prog 9 Rv M r n D (fun z => left z && !z.sameKey (key x)) cnt')
    (hx : get fs x = some (gl fs x)) (hG : (gl fs x).length ≤ 4194304) (b5 : Below w4.heap.size w4 w5) (ho : w5.ownsRow w4.heap.size 5 1 (.slice a (gl fs x).length c) (gl fs x).length (bcells (gl fs x)))
    (hs : Setd w5 (w.heap.size + 1) Y3 M' (n' + 1) 50 0 #[.map (some M'), .int .i64 (sz fs')] (put fs' x (gl fs x)) (upd V' x (.slice a (gl fs x).length c)) (sz (put fs' x (gl fs x))) e w6) :
    Cop w w6 M' (n' + 1) m cnt' Y3 r M n D fs (put fs' x (gl fs x)) (fun z => left z && !z.sameKey (key x)) (upd V' x (.slice a (gl fs x).length c)) := by
  obtain ⟨s1, s2, s3, s4⟩ := h.step hgr hrg
  obtain ⟨_, j1, j2, j3⟩ := hs
  have hb5 := b5.size
  have hM' := s1.lt (.inl rfl)
  have hY3l := s3.lt
  have hrl := hrg.lt
  have hYf := h.yf
  have hrf := h.rf
  have hml := h.ml
  have hbs := s4.size
  have hfoot : ∀ q, Foot M' (upd V' x (.slice a (gl fs x).length c)) q → Foot M' V' q ∨ w4.heap.size ≤ q := fun q hq => by
    rcases foot_upd hq with h | h
    · exact .inl h
    · exact .inr (World.ownsRow.lt ho q h).1
  refine ⟨s4.trans (⟨j3.os.trans b5.os, j3.tape.trans b5.tape, j3.output.trans b5.output, Nat.le_trans b5.size j3.size, fun q hq => (j3.block q (by omega) (by rintro (e | e) <;> omega)).trans (b5.block q (by omega))⟩), j1, ?_, j2, ⟨fun hq => ?_, hYf.2⟩, ?_, ⟨fun hq => ?_, hrf.2⟩, hml, h.g.put x hG, got_next h.got hx, by have := h.cnt; omega⟩
  · exact (s2.below b5 (by omega)).fr j3 (by rintro (e | e) <;> omega)
  · rcases hfoot _ hq with h' | h'
    · exact hYf.1 h'
    · omega
  · refine ranges_same hrg ?_ ?_
    · rw [j3.block M (by omega) (by rintro (e | e) <;> omega), b5.block M (by omega)]
    · rw [j3.block r (by omega) (by
        rintro (e | e)
        · exact hrf.2.1 e
        · exact hrf.1 (.inl e)), b5.block r (by omega)]
  · rcases hfoot _ hq with h' | h'
    · exact hrf.1 h'
    · omega
set_option maxHeartbeats 4000000 in
set_option maxRecDepth 100000 in
theorem copy_any {w : World} {B T D o M n : Nat} {cs : Array Value} {fs : Fm} {V : Nm → Value} (h : Fls w B M n fs V) (hB : Blk w D T cs) (h0 : cs[o]? = some (.map (some M))) (hG : Good fs n) (hn : n ≤ 100000) :
    Calls Try.prog 37 #[.pointer (some ⟨D, o, none⟩)] w fun e w' => ∃ M' fs' V', e = .returned (.agg #[.map (some M'), .int .i64 (sz fs')]) ∧ Fls w' w.heap.size M' n fs' V' ∧ Good fs' n ∧ (∀ s, get fs' s = get fs s) ∧ Below w.heap.size w w' := by
  have Hh := Lib.hid h
  have c0 : w.cell? ⟨D, o, none⟩ = some (.map (some M)) := by rw [hB.cell]; exact h0
  have hDl := hB.lt
  clear h hB h0
  go_enter Try.func37, Try.ntmps37
  go_wp2_with fail
  have b0 := (Below.refl w.heap.size w).alloc (Nat.le_refl _) (Obj.cells #[.map none, .int .i64 0] 50)
  have hY2 : Blk (w.alloc (Obj.cells #[.map none, .int .i64 0] 50)) w.heap.size 50 #[.map none, .int .i64 0] := Blk.new _ _ _
  have hs0 : (w.alloc (Obj.cells #[.map none, .int .i64 0] 50)).heap.size = w.heap.size + 1 := by simp
  refine (blank_any (B := w.heap.size + 1) (by rw [hs0]; exact Nat.le_refl _)).mono ?_
  rintro e w1 ⟨M', rfl, f1, b1, l1⟩
  have hM' := (f1.lt (.inl rfl)).2
  rw [hs0] at l1
  have hs1 := b1.size
  rw [hs0] at hs1
  obtain ⟨w2, hw2, b2, k2⟩ : ∃ w2, w2 = w1.alloc (Obj.cells #[.map (some M'), .int .i64 0] 50) ∧ Below w1.heap.size w1 w2 ∧ Blk w2 w1.heap.size 50 #[.map (some M'), .int .i64 0] := ⟨_, rfl, (Below.refl _ _).alloc (Nat.le_refl _) _, Blk.new _ _ _⟩
  have B2 := Lib.hid (b0.trans ((b1.trans (b2.mono b1.size)).mono (by rw [hs0]; omega)))
  have F2 := Lib.hid (f1.below b2)
  have Y2 := Lib.hid ((hY2.below b1 (by rw [hs0]; omega)).below b2 (by omega))
  have K2 := Lib.hid k2
  have W2 := Lib.hid hw2
  have hs2 := b2.size
  have hk2 := k2.lt
  obtain ⟨⟨DD, hD, hD1, hD2⟩, _⟩ := Hh.out.below B2.out
  have HD := Lib.hid hD
  have HD1 := Lib.hid hD1
  have HD2 := Lib.hid hD2
  have hMl := Lib.hid (Hh.out.lt (.inl rfl)).2
  have c1 : w1.cell? ⟨D, o, none⟩ = some (.map (some M)) := by
    have := (b0.trans (b1.mono (by rw [hs0]; omega))).cell (p := ⟨D, o, none⟩) hDl
    rw [this]; exact c0
  have hlt1 : D < w1.heap.size := by omega
  clear f1 b1 b2 k2 hw2 b0 hY2 hD hD1 hD2 c0 hs0
  go_wp2_with (at_range; refine wpList_range_own _ rfl _ 48 rfl 9 55 law9 Try.underlying48 _ M n DD rfl (by rw [← W2.out]; exact HD.out) ?_; intro w3 hrg0 hg0 hsz0)
  have START : ∃ cnt left, Cop w w3 M' 0 n cnt w1.heap.size (w1.heap.size + 1) M n DD fs [] left (fun _ => nilS) := by
    rw [← W2.out] at hrg0 hg0 hsz0
    have hw2s : w2.heap.size = w1.heap.size + 1 := by rw [W2.out]; simp
    rw [hw2s] at hrg0
    have FW : Fr w2 w3 (fun _ => False) := ⟨hg0.os, hg0.tape, hg0.output, hg0.size, fun q hq _ => hg0.block q hq (by simp)⟩
    refine ⟨_, _, ⟨B2.out.trans ⟨hg0.os, hg0.tape, hg0.output, hg0.size, fun q hq => hg0.block q (Nat.lt_of_lt_of_le hq B2.out.size) (by simp)⟩, F2.out.fr FW (fun _ _ h => h), Y2.out.fr FW (fun h => h), K2.out.fr FW (fun h => h), ⟨fun h => by have := foot_nil h; omega, by omega⟩, hrg0, ⟨fun h => by have := foot_nil h; omega, by omega, by omega⟩, hMl.out, good_nil _, fun s => ?_, ?_⟩⟩
    · rw [HD1.out s]
      cases hg : get fs s with
      | none => rfl
      | some l => rfl
    · have := HD.out.size_le
      omega
  have CS := Lib.hid START
  have HR := Lib.hid hs2
  clear START hrg0 hg0 hsz0 F2 Y2 K2 c1 hs2 hk2
  have hMl1 : w.heap.size + 1 ≤ w1.heap.size := hs1
  have hW2s : w2.heap.size = w1.heap.size + 1 := by rw [W2.out]; simp
  have HW2s := Lib.hid hW2s
  clear hW2s
  try go_frame
  rw [show (w1.alloc (Obj.cells #[.map (some M'), .int .i64 0] 50)).heap.size = w1.heap.size + 1 by simp]
  go_loopw [4] (fun _ wq => ∃ (n' cnt : Nat) (fs' : Fm) (left : Lit → Bool) (V' : Nm → Value), Cop w wq M' n' n cnt w1.heap.size (w1.heap.size + 1) M n DD fs fs' left V') (fun _ wq => wq.rangeLeft M (w1.heap.size + 1))
  case atStart =>
    obtain ⟨cnt, left, hc⟩ := CS.out
    exact ⟨0, cnt, [], left, _, hc⟩
  case round =>
    obtain ⟨n', cnt, fs', left, V', hC⟩ := hrel
    have HC := Lib.hid hC
    have hrg := hC.rg
    clear hC CS
    go_wp2_with (at_next; refine wpList_next_ranges _ rfl _ rfl 9 law9 Rv Value.string (fun (v : Value) => v) inv_key (fun v _ _ => ⟨v, rfl⟩) M (w1.heap.size + 1) n DD left cnt rfl hrg ?_ ?_)
    · intro hc0 hl0
      have y0 : wr.cell? ⟨w1.heap.size, 0, none⟩ = some (.map (some M')) := HC.out.y.cell 0
      have y1 : wr.cell? ⟨w1.heap.size, 1, none⟩ = some (.int .i64 (sz fs')) := HC.out.y.cell 1
      have x0 : wr.cell? ⟨w.heap.size, 0, none⟩ = some (.map none) := HC.out.y2.cell 0
      have x1 : wr.cell? ⟨w.heap.size, 1, none⟩ = some (.int .i64 0) := HC.out.y2.cell 1
      have f0 := HC.out.y2.free 0
      have f1 := HC.out.y2.free 1
      obtain ⟨w5, hw5, k5, F5⟩ : ∃ w5, w5 = (wr.setCell ⟨w.heap.size, 0, none⟩ (.map (some M'))).setCell ⟨w.heap.size, 1, none⟩ (.int .i64 (sz fs')) ∧ Blk w5 w.heap.size 50 #[.map (some M'), .int .i64 (sz fs')] ∧ Fr wr w5 (fun q => q = w.heap.size) :=
        ⟨_, rfl, (HC.out.y2.set 0 _).set 1 _, (fr_set _ _ _ _).trans (fr_set _ _ _ _) (fun _ _ h => h) (fun _ _ h => h)⟩
      have z0 : w5.cell? ⟨w.heap.size, 0, none⟩ = some (.map (some M')) := k5.cell 0
      have z1 : w5.cell? ⟨w.heap.size, 1, none⟩ = some (.int .i64 (sz fs')) := k5.cell 1
      have FIN : Hid (∃ M'' fs'' V'', Ending.returned (.agg #[.map (some M'), .int .i64 (sz fs')]) = .returned (.agg #[.map (some M''), .int .i64 (sz fs'')]) ∧ Fls w5 w.heap.size M'' n fs'' V'' ∧ Good fs'' n ∧ (∀ s, get fs'' s = get fs s) ∧ Below w.heap.size w w5) := Lib.hid (by
        have hle := HC.out.cnt
        refine ⟨M', fs', V', rfl, ((HC.out.f.fr F5 (fun q hq e => ?_)).mono (by omega)).base (Nat.le_succ _), ⟨HC.out.g.uniq, by have := HC.out.g.few; omega, HC.out.g.small⟩, fun s => ?_, HC.out.b.trans ⟨F5.os, F5.tape, F5.output, F5.size, fun q hq => F5.block q (Nat.lt_of_lt_of_le hq HC.out.b.size) (by omega)⟩⟩
        · have := (HC.out.f.lt hq).1
          omega
        · have := HC.out.got s
          rw [hl0] at this
          exact this)
      have W5 := Lib.hid hw5
      clear hc0 hl0 hrg hw5 k5 F5
      go_wp2_with fail
      rw [← W5.out]
      refine bodyPost_ret (by simp [results, Try.results37, go_sem, z0, z1]; try rfl) rfl ?_
      exact FIN.out
    · intro x c kl yd yp w4 cnt' hkey hlk hRv hat hrg4 hlt hgr hsz4 hen
      obtain ⟨hkl, hxs⟩ := inv_key2 hkey
      have hcV : V x = c := by
        unfold Rv at hRv
        simp only [Option.some.injEq, Prod.mk.injEq] at hRv
        have h1 := hat (.held nilS)
        rw [hkl, HD2.out x] at h1
        have h2 := h1.trans hRv.1.symm
        injection h2
      obtain ⟨s1, s2, s3, s4⟩ := HC.out.step hgr hrg4
      have hgx : get fs x = some (gl fs x) := by
        have h3 : (get fs x).isSome = true := by
          rw [← HD1.out x, ← hkl]
          exact Maps.has_true_of_atKey hat
        unfold gl
        cases hg : get fs x with
        | none => rw [hg] at h3; simp at h3
        | some l => rfl
      have hgl := hG.gl_le x
      have hown := (Hh.out.below s4).own x
      rw [hcV] at hown
      have CLN := Lib.hid (clone_any hown hgl)
      rw [hkl] at hrg4
      have g0 : gl fs' x = [] := by
        have h1 := HC.out.got x
        have h2 : left (key x) = true := by rw [← hkl]; exact hlk
        rw [h2] at h1
        unfold gl
        rw [h1]; rfl
      have hsz' := HC.out.g.sz_le
      have hcn := HC.out.cnt
      have hxs2 : x.size ≤ 9223372036854775807 := by unfold maxLen at hxs; omega
      have NXT : Hid (∀ w5 a c, Below w4.heap.size w4 w5 → w5.ownsRow w4.heap.size 5 1 (.slice a (gl fs x).length c) (gl fs x).length (bcells (gl fs x)) →
          Calls Try.prog 46 #[.pointer (some ⟨w1.heap.size, 0, none⟩), .string x, .slice a (gl fs x).length c] w5 (fun e w6 => e = .returned (.tuple #[]) ∧ ∃ V'', Cop w w6 M' (n' + 1) n cnt' w1.heap.size (w1.heap.size + 1) M n DD fs (put fs' x (gl fs x)) (fun z => left z && !z.sameKey (key x)) V'')) := Lib.hid (fun w5 a c b5 ho => by
        have hbl := (World.ownsRow.lt ho)
        have hfl : ∀ q, Foot M' V' q → q < w4.heap.size := fun q hq => (s1.lt hq).2
        have hY := s3.lt
        have C := set_any (o := 0) (u := (sz fs' : Int)) (s1.below b5) (s3.below b5 hY) rfl rfl HC.out.yf.1 (s := x) hxs2 (by omega) (by omega) (by omega) hgl (by rw [g0]; simp) (by rw [g0]; simp) (own_mono ho (by have := s4.size; have := HC.out.y2.lt; omega))
          (fun t ht => by
            cases hb : (Value.slice a (gl fs x).length c).ownBlock with
            | none => exact .inl rfl
            | some q =>
              refine .inr (fun e => ?_)
              have h1 := (hbl q hb).1
              have h2 := hfl q (.inr ⟨t, e.symm⟩)
              omega)
          (fun e => by have h1 := (hbl _ e).1; have h2 := hfl M' (.inl rfl); omega)
          (fun e => by have h1 := (hbl _ e).1; omega)
        have e1 : (sz fs' : Int) + (((gl fs x).length : Int) - (gl fs' x).length) = (sz (put fs' x (gl fs x)) : Int) := by have := sz_put HC.out.g.uniq x (gl fs x); omega
        rw [e1] at C
        exact C.mono fun e w6 hs => ⟨hs.1, _, HC.out.next hlt hgr hsz4 hrg4 hgx hgl b5 ho hs⟩)
      have CNT := Lib.hid hlt
      have RL := Lib.hid hrg.left_eq
      clear hrg4 hlt hgr hsz4 hat hRv hkey hlk hkl hcV s1 s2 s3 s4 hgx hown g0 hsz' hcn hrg hxs
      generalize gl fs x = l at *
      go_wp2_with fail
      refine CLN.out.mono ?_
      rintro e w5 ⟨a, cp, rfl, ho5, b5⟩
      have NX := Lib.hid (NXT.out w5 a cp b5 ho5)
      clear ho5 b5 hen CLN NXT
      go_wp2_with fail
      refine NX.out.mono ?_
      rintro e w6 ⟨rfl, V'', hc6⟩
      have HC6 := Lib.hid hc6
      clear hc6 NX
      go_wp2_with fail
      go_roundw
      case rel => exact ⟨n' + 1, cnt', _, _, V'', HC6.out⟩
      case measure =>
        rw [HC6.out.rg.left_eq, RL.out]
        exact CNT.out
end Go.Proofs.Ytejmoaloomnmkaa
