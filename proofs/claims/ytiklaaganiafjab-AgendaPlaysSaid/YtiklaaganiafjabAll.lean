/-
  FOR AgendaPlays: All.
-/
import Derived.Test.YtiklaaganiafjabSall
import Derived.Handy
import Derived.WalkSpells
namespace Go.Proofs.Ytiklaaganiafjab
open Go.RowKit
theorem ins_none (p : Option Addr) (cap : Nat) (fv : Value) (w : World) : Calls Try.prog 39 #[.slice p 0 cap, .int .i64 0, .int .i64 0, fv] w fun e w' => e = .returned (.tuple #[]) ∧ w = w' := by
  go_enter Try.func39, Try.ntmps39
  go_wp2
  refine wp_loop_rounds 1 ?_
  rw [rounds_succ]
  go_wp2
  go_end0
  exact ⟨rfl, rfl⟩
theorem pdq_none (p : Option Addr) (cap : Nat) (lim : Int) (fv : Value) (w : World) : Calls Try.prog 33 #[.slice p 0 cap, .int .i64 0, .int .i64 0, .int .i64 lim, fv] w fun e w' => e = .returned (.tuple #[]) ∧ w = w' := by
  go_enter Try.func33, Try.ntmps33
  go_wp2
  refine wp_loop_rounds 1 ?_
  rw [rounds_succ]
  go_wp2_with (go_at_call 39; refine (ins_none _ _ _ _).mono ?_; rintro e w' ⟨rfl, rfl⟩)
  (try simp only [Exit.inBlock, Exit.then]); refine bodyPost_ret (results_none rfl _ _ _) rfl ?_
  exact ⟨rfl, rfl⟩
theorem sort_none (p : Option Addr) (cap : Nat) (fv : Value) (w : World) : Calls Try.prog 25 #[.slice p 0 cap, fv] w fun e w' => e = .returned (.tuple #[]) ∧ w = w' := by
  have hl := fun W => Try.bits_Len 0 W (by omega) (by omega)
  go_enter Try.func25, Try.ntmps25
  go_wp2_with fail
  refine (hl _).mono ?_
  rintro e w' ⟨rfl, rfl⟩
  go_wp2_with fail
  refine (pdq_none _ _ _ _ _).mono ?_
  rintro e w' ⟨rfl, rfl⟩
  go_wp2_with fail
  go_end0
  exact ⟨rfl, rfl⟩
def Cloned (w : World) (l : List It) (e : Ending) (w' : World) : Prop := Below w.heap.size w w' ∧ ((e = .returned (.slice none 0 0) ∧ l = []) ∨ ∃ g cap, e = .returned (.slice (some ⟨g, 0, none⟩) l.length cap) ∧ RowG w' w.heap.size g cap l)
theorem info46' : (Try.prog.info? 46).map (fun i => (i.zero, i.size, i.bytes)) = some (some (.agg #[.int .i64 0, .int .i64 0, .int .i64 0]), 3, 24) := by kernel_rfl
theorem own_empty (w : World) : (w.alloc (Obj.cells #[] 46)).ownsRow w.heap.size 46 3 (.slice (some ⟨w.heap.size, 0, none⟩) 0 0) 0 [] :=
  ⟨rfl, .inr ⟨w.heap.size, 0, #[], rfl, Nat.le_refl _, heap_alloc_new w _, Nat.le_refl _, Nat.zero_le _, rfl, rfl⟩⟩
set_option maxRecDepth 100000 in
theorem clone_any (B : Nat) (v : Value) (l : List It) (w : World) (h : w.ownsRow B 46 3 v l.length (cells l)) (hl : l.length ≤ 4097) : Calls Try.prog 24 #[v] w (Cloned w l) := by
  obtain ⟨i46, hi, hz0, hz1, hz2⟩ := info_parts info46'
  rcases h.2 with ⟨rfl, e⟩ | ⟨g, cap, cur, rfl, h4⟩
  · have e0 : l = [] := List.eq_nil_of_length_eq_zero e
    have E0 := Lib.hid e0
    clear e0 e h
    have hnl := Lib.run_eql_slice_nil (P := Try.prog) w 54 46 none 0 0 0 0 Try.underlying54
    go_enter Try.func24, Try.ntmps24
    go_wp2_with fail
    go_ret
    exact ⟨Below.refl _ _, .inl ⟨rfl, E0.out⟩⟩
  · have hnews : ∀ j u, (cells l)[j]? = some u → w.cell? ((⟨g, 0, none⟩ : Addr).add j) = some u := fun j u hj => by
      have hj' : j < (cells l).length := (List.getElem?_eq_some_iff.1 hj).1
      have hcc := World.ownsRow.cellAt h j (by rw [cells_len] at hj'; exact hj')
      have e1 : (⟨g, 0, none⟩ : Addr).add j = ⟨g, j, none⟩ := by unfold Addr.add; split <;> simp_all
      rw [e1, hcc]; exact hj
    have hg : g < w.heap.size := (World.ownsRow.lt h g rfl).2
    have HN : Hid (∀ j u, (cells l)[j]? = some u → (w.alloc (Obj.cells #[] 46)).cell? ((⟨g, 0, none⟩ : Addr).add j) = some u) := Lib.hid (fun j u hj => by
      have := hnews j u hj
      rw [← this]
      have e1 : (⟨g, 0, none⟩ : Addr).add j = ⟨g, j, none⟩ := by unfold Addr.add; split <;> simp_all
      rw [e1]
      exact World.cell?_alloc_lt _ _ _ hg)
    have H1 : Hid (∀ u ∈ cells l, u.oneCell' = true) := Lib.hid (by
      intro u hu
      unfold cells at hu
      obtain ⟨x, _, hx⟩ := List.mem_flatMap.1 hu
      simp [enc] at hx
      rcases hx with rfl | rfl | rfl <;> rfl)
    have HLEN : Hid ((cells l).length = l.length * 3) := Lib.hid (cells_len l)
    have O0 := Lib.hid (own_empty w)
    have B0 := Lib.hid ((Below.refl w.heap.size w).alloc (Nat.le_refl _) (Obj.cells #[] 46))
    have FIN : Hid (∀ v' w', w'.ownsRow w.heap.size 46 3 v' (0 + l.length) ([] ++ cells l) → (w.alloc (Obj.cells #[] 46)).grownBy w' (some w.heap.size) → Cloned w l (.returned v') w') := Lib.hid (fun v' w' ho hg2 => by
      rw [Nat.zero_add, List.nil_append] at ho
      refine ⟨B0.out.trans ⟨hg2.os, hg2.tape, hg2.output, hg2.size, fun q hq => hg2.block q (by simp; omega) (by simp; omega)⟩, ?_⟩
      rcases ho.2 with ⟨rfl, e⟩ | ⟨g', cap', cur', rfl, h5⟩
      · exact .inl ⟨rfl, List.eq_nil_of_length_eq_zero e⟩
      · exact .inr ⟨g', cap', rfl, ho⟩)
    clear h h4 hnews
    generalize l.length = n at *
    have hnl := Lib.run_eql_slice_nil (P := Try.prog) w 54 46 (some ⟨g, 0, none⟩) n cap 0 0 Try.underlying54
    go_enter Try.func24, Try.ntmps24
    go_wp2_with (at_builtin; refine wpList_append_own _ rfl (.tmp 5) (.tmp 6) 54 rfl w.heap.size 46 i46 (.agg #[.int .i64 0, .int .i64 0, .int .i64 0]) 3 24 Try.underlying54 hi hz0 hz1 hz2 rfl (by decide) (.slice (some ⟨w.heap.size, 0, none⟩) 0 0) 0 [] rfl O0.out ⟨g, 0, none⟩ n cap (cells l) rfl HLEN.out HN.out H1.out (by unfold maxLen; omega) (by omega) (by simp) ?_; intro v' w4 ho4 hg4 _)
    have F4 := Lib.hid (FIN.out _ _ ho4 hg4)
    clear ho4 hg4
    go_wp2_with fail
    go_ret
    exact F4.out
def Alled (w : World) (R : List It) (e : Ending) (w' : World) : Prop := ∃ a c, e = .returned (.slice a R.length c) ∧ Its w' a R ∧ Below w.heap.size w w'
set_option maxRecDepth 100000 in
theorem all_any (w : World) (B A : Nat) (Z : Int) (r : Option Nat) (R : List It) (h : Agd w B A Z r R) : Calls Try.prog 15 #[.pointer (some ⟨A, 0, none⟩)] w (Alled w R) := by
  obtain ⟨v, l, _, h2, _, hp, hs, _, hi⟩ := h
  have hc := h2.cell
  have CL := Lib.hid (clone_any B v l w h2.own h2.small)
  have hll := h2.small
  have hil : l.Pairwise (fun x y => x.i ≠ y.i) := (hp.symm.pairwise_iff (fun {a b} (h : a.i ≠ b.i) => h.symm)).1 hi
  have HIL := Lib.hid hil
  have HP := Lib.hid hp
  have HS := Lib.hid hs
  clear h2 hp hs hi hil
  go_enter Try.func15, Try.ntmps15
  go_wp2_with fail
  refine CL.out.mono ?_
  rintro e w1 ⟨b1, h1⟩
  have B1 := Lib.hid b1
  clear b1 hc
  rcases h1 with ⟨rfl, e0⟩ | ⟨g, cap, rfl, hrow⟩
  · have E0 := Lib.hid e0
    clear e0
    go_wp2_with fail
    refine (sort_none _ _ _ _).mono ?_
    rintro e w2 ⟨rfl, rfl⟩
    go_wp2_with fail
    go_ret
    have hR : R = [] := by
      have := HP.out.length_eq
      rw [E0.out] at this
      exact List.eq_nil_of_length_eq_zero this.symm
    subst hR
    exact ⟨none, 0, rfl, its_nil _ _, B1.out⟩
  · have SO := Lib.hid (sort_any g cap w.heap.size l w1 hrow hll HIL.out)
    clear hrow
    go_wp2_with fail
    refine SO.out.mono ?_
    rintro e w2 ⟨rfl, S, hS1, hS2, hI, hB⟩
    have S1 := Lib.hid hS1
    have S2 := Lib.hid hS2
    have SI := Lib.hid hI
    have SB := Lib.hid hB
    clear hS1 hS2 hI hB SO
    go_wp2_with fail
    go_ret
    have e1 : S = R := sorted_unique (S1.out.trans HP.out) S2.out HS.out
    subst e1
    refine ⟨_, cap, ?_, SI.out, B1.out.trans (SB.out.mono (by have := B1.out.size; omega))⟩
    rw [S1.out.length_eq]
    rfl
end Go.Proofs.Ytiklaaganiafjab
