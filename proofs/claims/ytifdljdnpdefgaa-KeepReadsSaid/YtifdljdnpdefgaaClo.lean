/-
  WHAT A CALL LEAVES ALONE; above; the closure that takes a pick; several of them.
-/
import Derived.Test.YtifdljdnpdefgaaRdp
import Derived.Test.YtifdljdnpdefgaaBMeths
import Derived.Deep.AppendLies
import Derived.Deep.RegionLaw
import Derived.Laws.OwnMore
namespace Go.Proofs.Ytifdljdnpdefgaa
open Go.RowKit
/-- blocks off P are as they were -/
structure Fr (w w' : World) (P : Nat → Prop) : Prop where
  os : w'.os = w.os
  tape : w'.tape = w.tape
  output : w'.output = w.output
  size : w.heap.size ≤ w'.heap.size
  block : ∀ q, q < w.heap.size → ¬ P q → w'.heap[q]? = w.heap[q]?
theorem Fr.refl (w : World) (P : Nat → Prop) : Fr w w P := ⟨rfl, rfl, rfl, Nat.le_refl _, fun _ _ _ => rfl⟩
theorem Fr.trans {a b c : World} {P Q R : Nat → Prop} (h : Fr a b P) (k : Fr b c Q) (hP : ∀ q, q < a.heap.size → P q → R q) (hQ : ∀ q, q < a.heap.size → Q q → R q) : Fr a c R :=
  ⟨k.os.trans h.os, k.tape.trans h.tape, k.output.trans h.output, Nat.le_trans h.size k.size, fun q hq hR => (k.block q (Nat.lt_of_lt_of_le hq h.size) (fun hh => hR (hQ q hq hh))).trans (h.block q hq (fun hh => hR (hP q hq hh)))⟩
theorem Fr.of_grown {w w' : World} {r : Option Nat} (h : w.grownBy w' r) : Fr w w' (fun q => some q = r) := ⟨h.os, h.tape, h.output, h.size, fun q hq hne => h.block q hq hne⟩
theorem Fr.of_below {w w' : World} (h : Below w.heap.size w w') (P : Nat → Prop) : Fr w w' P := ⟨h.os, h.tape, h.output, h.size, fun q hq _ => h.block q hq⟩
theorem Fr.mono {w w' : World} {P Q : Nat → Prop} (h : Fr w w' P) (hPQ : ∀ q, q < w.heap.size → P q → Q q) : Fr w w' Q := ⟨h.os, h.tape, h.output, h.size, fun q hq hn => h.block q hq (fun hh => hn (hPQ q hq hh))⟩
theorem Fr.below {w w' : World} {B : Nat} {P : Nat → Prop} (h : Fr w w' P) (hP : ∀ q, P q → B ≤ q) (hB : B ≤ w.heap.size) : Below B w w' := ⟨h.os, h.tape, h.output, h.size, fun q hq => h.block q (Nat.lt_of_lt_of_le hq hB) (fun hh => by have := hP q hh; omega)⟩
theorem fr_set (w : World) (g i : Nat) (u : Value) : Fr w (w.setCell ⟨g, i, none⟩ u) (fun q => q = g) :=
  ⟨rfl, rfl, rfl, by simp [World.setCell], fun q _ hne => Below.heap_setCell _ _ _ _ hne⟩
theorem fr_drew (w : World) (P : Nat → Prop) : Fr w w.drew P := ⟨rfl, rfl, rfl, Nat.le_refl _, fun _ _ _ => rfl⟩
theorem Fr.grown {w w' : World} {b : Nat} (h : w.grownBy w' (some b)) : Fr w w' (fun q => q = b) := (Fr.of_grown h).mono fun q _ e => by injection e
theorem Fr.set {w w' : World} {P : Nat → Prop} (h : Fr w w' P) (g i : Nat) (u : Value) (hg : P g ∨ w.heap.size ≤ g) : Fr w (w'.setCell ⟨g, i, none⟩ u) P :=
  h.trans (fr_set w' g i u) (fun _ _ h => h) (fun q hq e => by subst e; rcases hg with h | h; exact h; omega)
theorem Fr.drew {w w' : World} {P : Nat → Prop} (h : Fr w w' P) : Fr w w'.drew P := ⟨h.os, h.tape, h.output, h.size, h.block⟩
theorem Fr.al {w w' : World} {P : Nat → Prop} (h : Fr w w' P) (o : Obj) : Fr w (w'.alloc o) P :=
  h.trans (Fr.of_below ((Below.refl w'.heap.size w').alloc (Nat.le_refl _) o) P) (fun _ _ h => h) (fun _ _ h => h)
theorem Fr.on {w w' w2 : World} {P : Nat → Prop} (h : Fr w w' P) (k : Fr w' w2 P) : Fr w w2 P := h.trans k (fun _ _ h => h) (fun _ _ h => h)
theorem Blk.fr {w w' : World} {g : Nat} {t : TypeId} {cs : Array Value} {P : Nat → Prop} (h : Blk w g t cs) (hf : Fr w w' P) (hP : ¬ P g) : Blk w' g t cs := (hf.block g h.lt hP).trans h
theorem Bt.TapeAt.fr2 {w w' : World} {b : Nat} {s : ByteArray} {e : Int} {P : Nat → Prop} (h : Bt.TapeAt w b s e) (hf : Fr w w' P) (hP : ¬ P b) : Bt.TapeAt w' b s e := (hf.block b h.lt hP).trans h
theorem Fr.own {w w' : World} {P : Nat → Prop} {B n size : Nat} {e : TypeId} {v : Value} {xs : List Value} (h : w.ownsRow B e size v n xs) (f : Fr w w' P) (hP : ∀ q, P q → q < B) : w'.ownsRow B e size v n xs := by
  refine ⟨h.1, ?_⟩
  rcases h.2 with hn | ⟨g, cap, cur, rfl, hb, hgg, rest⟩
  · exact .inl hn
  · refine .inr ⟨g, cap, cur, rfl, hb, ?_, rest⟩
    rw [f.block g (Array.getElem?_eq_some_iff.1 hgg).1 (fun h => by have := hP g h; omega)]
    exact hgg
theorem ret_i {a b : Int} (h : a = b) : Ending.returned (.int .i64 a) = .returned (.int .i64 b) := by rw [h]
set_option maxHeartbeats 4000000 in
theorem above_any (p : Int) (m : Nat) (hm : m < 18446744073709551616) (w : World) : Calls Try.prog 38 #[.int .i64 p, .int .u64 (m : Int)] w fun e w' => e = .returned (.int .i64 (aboveI p m)) ∧ w = w' := by
  have IX := Lib.hid (index_any p)
  cases hp : idxB p
  · rw [hp] at IX
    have R : aboveI p m = -1 := by unfold aboveI; rw [if_neg (by rw [hp]; simp)]
    rw [R]
    go_enter Try.func38, Try.ntmps38
    go_wp2_with fail
    refine (IX.out _).mono ?_
    rintro e w1 ⟨rfl, rfl⟩
    go_wp2_with fail
    go_ret
    exact ⟨rfl, rfl⟩
  · rw [hp] at IX
    have hp2 := hp
    unfold idxB at hp2
    simp only [Bool.and_eq_true, decide_eq_true_eq] at hp2
    have hw : IntKind.u64.wrap (549755813888 - p) = 549755813888 - p := IntWalk.u64_in _ (by omega)
    by_cases hc : (m : Int) < 549755813888 - p
    · have R : aboveI p m = p + 1 + (m : Int) := by unfold aboveI; rw [if_pos ⟨hp, hc⟩]
      rw [R]
      have hc2 : ¬ 549755813888 - p ≤ (m : Int) := by omega
      clear hp
      go_enter Try.func38, Try.ntmps38
      go_wp2_with fail
      refine (IX.out _).mono ?_
      rintro e w1 ⟨rfl, rfl⟩
      go_wp2_with fail
      go_ret
      exact ⟨rfl, rfl⟩
    · have R : aboveI p m = -1 := by unfold aboveI; rw [if_neg (fun h => hc h.2)]
      rw [R]
      have hc2 : 549755813888 - p ≤ (m : Int) := by omega
      clear hp
      go_enter Try.func38, Try.ntmps38
      go_wp2_with fail
      refine (IX.out _).mono ?_
      rintro e w1 ⟨rfl, rfl⟩
      go_wp2_with fail
      go_ret
      exact ⟨rfl, rfl⟩
/-- the tape's Num, over what is left and the error -/
theorem num_any {w : World} {b : Nat} {t : Tp} (h : Bt.TapeAt w b t.1 t.2) (hs : t.1.size ≤ 281474976710656) :
    Calls Try.prog 21 #[.pointer (some ⟨b, 0, none⟩)] w fun r w' => r = .returned (.int .u64 ((pn t).1 : Int)) ∧ w.grownBy w' (some b) ∧ Bt.TapeAt w' b (pn t).2.1 (pn t).2.2 := Bt.tapeNum_any h hs
/-- the closure's variables: the last pick, the tape's box, the tape -/
structure Cl (w : World) (lb tb b : Nat) (p : Int) (t : Tp) : Prop where
  bl : Blk w lb 3 #[.int .i64 p]
  bx : Blk w tb 52 #[.pointer (some ⟨b, 0, none⟩)]
  bt : Bt.TapeAt w b t.1 t.2
def PL (lb b : Nat) (q : Nat) : Prop := q = lb ∨ q = b
set_option maxHeartbeats 4000000 in
set_option maxRecDepth 100000 in
theorem clo_any {w : World} {lb tb b : Nat} {p : Int} {t : Tp} (h : Cl w lb tb b p t) (hs : t.1.size ≤ 281474976710656) (h1 : lb ≠ tb) (h2 : lb ≠ b) (h3 : tb ≠ b) :
    Calls Try.prog 37 #[.pointer (some ⟨lb, 0, none⟩), .pointer (some ⟨tb, 0, none⟩)] w fun e w' => e = .returned (.int .i64 (aboveI p (pn t).1)) ∧ Cl w' lb tb b (aboveI p (pn t).1) (pn t).2 ∧ Fr w w' (PL lb b) := by
  have hlt := pn_lt t
  have N1 := Lib.hid (fun W (hT : Bt.TapeAt W b t.1 t.2) => num_any hT hs)
  have A1 := Lib.hid (fun W => above_any p (pn t).1 hlt W)
  have H := Lib.hid h
  generalize aboveI p (pn t).1 = q at *
  generalize pn t = y at *
  obtain ⟨n, s2, e2⟩ := y
  obtain ⟨s, e⟩ := t
  simp only at N1 A1 H hlt ⊢
  have c0 : w.cell? ⟨lb, 0, none⟩ = some (.int .i64 p) := h.bl.cell 0
  have c1 : w.cell? ⟨tb, 0, none⟩ = some (.pointer (some ⟨b, 0, none⟩)) := h.bx.cell 0
  have T0 : Bt.TapeAt w b s e := h.bt
  clear h hlt hs
  have T1 : Bt.TapeAt w.drew b s e := T0
  have HD : Hid (Cl w.drew lb tb b p (s, e)) := Lib.hid ⟨H.out.bl, H.out.bx, H.out.bt⟩
  go_enter Try.func37, Try.ntmps37
  go_wp2_with fail
  go_region_with (first
    | (go_at_call 21; refine (N1.out _ ?_).mono ?_; exact T1; rintro r w3 ⟨rfl, g3, t3⟩; have F3 := Lib.hid (Fr.grown g3); have T3 := Lib.hid t3; have K3 := Lib.hid (HD.out.bl.fr F3.out h2); have X3 := Lib.hid (HD.out.bx.fr F3.out h3); have k0 : w3.cell? ⟨lb, 0, none⟩ = some (.int .i64 p) := K3.out.cell 0; have k1 : w3.cell? ⟨tb, 0, none⟩ = some (.pointer (some ⟨b, 0, none⟩)) := X3.out.cell 0; have kf : w3.frozen? ⟨lb, 0, none⟩ = false := K3.out.free 0; clear g3 t3)
    | (go_at_call 38; refine (A1.out _).mono ?_; rintro r w4 ⟨rfl, rfl⟩))
  all_goals
    have C5 : Hid (Cl (w3.setCell ⟨lb, 0, none⟩ (.int .i64 q)) lb tb b q (s2, e2)) := Lib.hid ⟨K3.out.set 0 _, X3.out.fr (fr_set w3 lb 0 _) (Ne.symm h1), T3.out.fr2 (fr_set w3 lb 0 _) (Ne.symm h2)⟩
    have F4 : Fr w w3 (PL lb b) := ⟨F3.out.os, F3.out.tape, F3.out.output, F3.out.size, fun q hq hn => F3.out.block q hq (fun e => hn (.inr e))⟩
    have F5 := Lib.hid (F4.set lb 0 (.int .i64 q) (.inl (.inl rfl)))
    have z0 : (w3.setCell ⟨lb, 0, none⟩ (.int .i64 q)).cell? ⟨lb, 0, none⟩ = some (.int .i64 q) := C5.out.bl.cell 0
    clear k0 k1 kf F3 T3 K3 X3 F4 c0 c1 T0 T1 HD H
    generalize w3.setCell ⟨lb, 0, none⟩ (.int .i64 q) = w5 at *
    go_wp2_with fail
    go_ret
    exact ⟨rfl, C5.out, F5.out⟩
theorem info3 : (Try.prog.info? 3).map (fun i => (i.zero, i.size, i.bytes)) = some (some (.int .i64 0), 1, 8) := by kernel_rfl
/-- a slice of whole numbers that the call owns, from block B on -/
def OwnI (w : World) (B : Nat) (v : Value) (xs : List Int) : Prop := w.ownsRow B 3 1 v xs.length (xs.map (Value.int .i64))
theorem OwnI.below {w w' : World} {B : Nat} {v : Value} {xs : List Int} (h : OwnI w B v xs) (hb : Below w.heap.size w w') : OwnI w' B v xs := by
  refine World.ownsRow.kept (row := none) h ⟨hb.os, hb.tape, hb.output, hb.size, fun k hk _ => hb.block k hk⟩ ?_
  cases v.ownBlock <;> simp
theorem OwnI.ints {w : World} {B : Nat} {v : Value} {xs : List Int} (h : OwnI w B v xs) : ∃ a c, v = .slice a xs.length c ∧ Ints w a xs ∧ xs.length ≤ c := by
  rcases h.2 with ⟨rfl, hn⟩ | ⟨g, cap, cur, rfl, hb, hgg, hc, _, _, _⟩
  · exact ⟨none, 0, by rw [hn], fun i hi => by omega, by omega⟩
  · refine ⟨some ⟨g, 0, none⟩, cap, rfl, fun i hi => ?_, hc⟩
    have e := World.ownsRow.cellAt h i (by omega)
    refine ⟨g, 0, rfl, (Array.getElem?_eq_some_iff.1 hgg).1, ?_⟩
    rw [Nat.zero_add, e]
    simp
theorem OwnI.fr {w w' : World} {P : Nat → Prop} {B : Nat} {v : Value} {xs : List Int} (h : OwnI w B v xs) (f : Fr w w' P) (hP : ∀ q, P q → q < B) : OwnI w' B v xs := Fr.own h f hP
theorem append_int {ops : Array Oper} {rest : List Oper} {o : Oper} {a : Act} {Q : Exit → Act → World → Prop} (W : World) (hgd : o.guard = none) (s x : Operand)
    (ho : o.op = .call { callee := .builtin .append, args := #[s, x], argTypes := #[44, 44] })
    (B : Nat) (v : Value) (xs : List Int) (hs : a.eval s = v) (hown : OwnI W B v xs) (c : Int)
    (hx : a.eval x = .slice (some ⟨W.heap.size, 0, none⟩) 1 1) (hlen : (xs.length + 1) * 8 ≤ 140737488355328) (hB : B ≤ W.heap.size)
    (h : ∀ v' w', OwnI w' B v' (xs ++ [c]) → Below B W w' → wpList Try.prog ops Q rest (a.put o.dst v') w') :
    wpList Try.prog ops Q (o :: rest) a (W.alloc (.cells #[.int .i64 c] 3)) := by
  obtain ⟨i, hi, hz0, hz1, hz2⟩ := info_parts info3
  refine wpList_append_own _ hgd s x 44 ho B 3 i (.int .i64 0) 1 8 Try.underlying44 hi hz0 hz1 hz2 rfl (by decide) v xs.length (xs.map (Value.int .i64)) hs (hown.alloc _) ⟨W.heap.size, 0, none⟩ 1 1 [.int .i64 c] hx rfl ?_ ?_ ?_ ?_ ?_ ?_
  · exact World.news_of_block (cs := #[.int .i64 c]) (heap_alloc_new W _)
  · intro u hu; simp at hu; subst hu; rfl
  · unfold maxLen; omega
  · omega
  · simp; omega
  · intro v' w' ho' hg _
    refine h v' w' ?_ ?_
    · simpa [OwnI] using ho'
    · refine (((Below.refl B W).alloc hB _).grown hg (by simp; omega) ?_)
      intro q hq
      exact (World.ownsRow.lt hown q hq).1
theorem append_none {ops : Array Oper} {rest : List Oper} {o : Oper} {a : Act} {Q : Exit → Act → World → Prop} (w : World) (hgd : o.guard = none) (s x : Operand)
    (ho : o.op = .call { callee := .builtin .append, args := #[s, x], argTypes := #[44, 44] }) (g : Nat)
    (hs : a.eval s = .slice (some ⟨g, 0, none⟩) 1 1) (hx : a.eval x = .slice none 0 0)
    (h : wpList Try.prog ops Q rest (a.put o.dst (.slice (some ⟨g, 0, none⟩) 1 1)) w) : wpList Try.prog ops Q (o :: rest) a w := by
  obtain ⟨i, hi, hz0, hz1, hz2⟩ := info_parts info3
  have hr : (Builtin.append_ #[44, 44] o.type #[.slice (some ⟨g, 0, none⟩) 1 1, .slice none 0 0]).run Try.prog w = .ok (.slice (some ⟨g, 0, none⟩) 1 1) w := by
    simp [Builtin.append_, run_underlying Try.underlying44, sizeOf, typeInfo, hi, Builtin.lenOf, Builtin.firstCells, storeCells]
  refine wpList_plain hgd fun _ hK => ?_
  unfold Oper.wp execOp
  simp only [ho, resolve, invoke, builtin, Sem.run_bind, Sem.run_pure, Result.andThen_ok, List.map_toArray, List.map_cons, List.map_nil, hs, hx, hr]
  exact hK _ _ h
theorem Fr.over {w W w' : World} {P : Nat → Prop} (h : Fr w W P) (k : Below w.heap.size W w') : Fr w w' P :=
  ⟨k.os.trans h.os, k.tape.trans h.tape, k.output.trans h.output, Nat.le_trans h.size k.size, fun q hq hn => (k.block q hq).trans (h.block q hq hn)⟩
/-- in the round over picks -/
structure Sv (w wq : World) (lb tb b : Nat) (X : List Int × Int × Tp) (v : Value) : Prop where
  o : OwnI wq w.heap.size v X.1
  c : Cl wq lb tb b X.2.1 X.2.2
  f : Fr w wq (PL lb b)
set_option maxHeartbeats 4000000 in
set_option maxRecDepth 100000 in
theorem several_int {w : World} {lb tb b : Nat} {p : Int} {t : Tp} (N : Nat) (hN : N < 18446744073709551616) (h : Cl w lb tb b p t) (hs : t.1.size ≤ 281474976710656) (h1 : lb ≠ tb) (h2 : lb ≠ b) (h3 : tb ≠ b) :
    Calls Try.prog 36 #[.int .u64 (N : Int), .int .i64 14, .func (.func 37) #[] #[.pointer (some ⟨lb, 0, none⟩), .pointer (some ⟨tb, 0, none⟩)]] w fun e w' => ∃ v, e = .returned v ∧ Sv w w' lb tb b (pIter (min N 15) p t) v ∧ (min N 15 = 0 → v = .slice none 0 0) := by
  have S0 : Hid (Sv w w lb tb b (pIter 0 p t) (.slice none 0 0)) := Lib.hid ⟨World.ownsRow_nil _ _ _ _, h, Fr.refl _ _⟩
  have hlb := h.bl.lt
  have htb := h.bx.lt
  have hbb := h.bt.lt
  have CL := Lib.hid (fun j W (hC : Cl W lb tb b (pIter j p t).2.1 (pIter j p t).2.2) => clo_any hC (Nat.le_trans (pIter_le j p t) hs) h1 h2 h3)
  clear h
  by_cases hN15 : N ≤ 15
  · rw [show min N 15 = N by omega]
    have hNI : (N : Int) ≤ 15 := by omega
    go_enter Try.func36, Try.ntmps36
    go_wp2_with fail
    go_loopw [7, 13] (fun v i wq => ∃ j : Nat, i = .int .u64 (j : Int) ∧ j ≤ N ∧ Sv w wq lb tb b (pIter j p t) v ∧ (j = 0 → v = .slice none 0 0)) (fun _ i _ => N - (intOf i).toNat)
    case atStart => exact ⟨0, rfl, Nat.zero_le _, S0.out, fun _ => rfl⟩
    case round =>
      obtain ⟨j, rfl, hj, hS, hv0⟩ := hrel
      have HV0 := Lib.hid hv0
      clear hv0
      have HS := Lib.hid hS
      clear hS S0
      by_cases hjn : j < N
      · have l1 : (j : Int) < (N : Int) := by omega
        have hlen : ((pIter j p t).1.length + 1) * 8 ≤ 140737488355328 := by rw [pIter_len]; omega
        have CJ := Lib.hid (CL.out j wr HS.out.c)
        have NX : Hid (pIter (j + 1) p t = ((pIter j p t).1 ++ [aboveI (pIter j p t).2.1 (pn (pIter j p t).2.2).1], aboveI (pIter j p t).2.1 (pn (pIter j p t).2.2).1, (pn (pIter j p t).2.2).2)) := rfl
        clear CL
        generalize aboveI (pIter j p t).2.1 (pn (pIter j p t).2.2).1 = q at *
        generalize (pn (pIter j p t).2.2).2 = t2 at *
        generalize pIter j p t = X at *
        go_wp2_with (first
          | (go_at_call 37; refine CJ.out.mono ?_; rintro e w2 ⟨rfl, c2, f2⟩; have C2 := Lib.hid c2; have F2 := Lib.hid (HS.out.f.on f2); have O2 := Lib.hid (OwnI.fr HS.out.o f2 (fun q hq => by rcases hq with rfl | rfl <;> assumption)); have z2 := F2.out.size; clear c2 f2)
          | (at_builtin; refine append_int _ rfl _ _ rfl w.heap.size _ _ rfl O2.out _ rfl hlen z2 ?_; intro v3 w3 o3 b3))
        have S3 : Hid (Sv w w3 lb tb b (pIter (j + 1) p t) v3) := Lib.hid (by
          rw [NX.out]
          exact ⟨o3, ⟨C2.out.bl.below b3 hlb, C2.out.bx.below b3 htb, C2.out.bt.below b3 hbb⟩, F2.out.over b3⟩)
        clear o3 b3 C2 F2 O2 HS
        go_roundw
        case rel => exact ⟨j + 1, by go_num, by omega, S3.out, fun h => by omega⟩
        case measure => simp [intOf]; omega
      · obtain rfl : j = N := by omega
        obtain ⟨va, vc, rfl, _, _⟩ := HS.out.o.ints
        go_wp2_with fail
        go_ret
        exact ⟨_, rfl, HS.out, HV0.out⟩
  · rw [show min N 15 = 15 by omega]
    have hNI : (15 : Int) < (N : Int) := by omega
    go_enter Try.func36, Try.ntmps36
    go_wp2_with fail
    go_loopw [7, 13] (fun v i wq => ∃ j : Nat, i = .int .u64 (j : Int) ∧ j ≤ 15 ∧ Sv w wq lb tb b (pIter j p t) v ∧ (j = 0 → v = .slice none 0 0)) (fun _ i _ => 15 - (intOf i).toNat)
    case atStart => exact ⟨0, rfl, Nat.zero_le _, S0.out, fun _ => rfl⟩
    case round =>
      obtain ⟨j, rfl, hj, hS, hv0⟩ := hrel
      have HV0 := Lib.hid hv0
      clear hv0
      have HS := Lib.hid hS
      clear hS S0
      by_cases hjn : j < 15
      · have l1 : (j : Int) < 15 := by omega
        have hlen : ((pIter j p t).1.length + 1) * 8 ≤ 140737488355328 := by rw [pIter_len]; omega
        have CJ := Lib.hid (CL.out j wr HS.out.c)
        have NX : Hid (pIter (j + 1) p t = ((pIter j p t).1 ++ [aboveI (pIter j p t).2.1 (pn (pIter j p t).2.2).1], aboveI (pIter j p t).2.1 (pn (pIter j p t).2.2).1, (pn (pIter j p t).2.2).2)) := rfl
        clear CL
        generalize aboveI (pIter j p t).2.1 (pn (pIter j p t).2.2).1 = q at *
        generalize (pn (pIter j p t).2.2).2 = t2 at *
        generalize pIter j p t = X at *
        go_wp2_with (first
          | (go_at_call 37; refine CJ.out.mono ?_; rintro e w2 ⟨rfl, c2, f2⟩; have C2 := Lib.hid c2; have F2 := Lib.hid (HS.out.f.on f2); have O2 := Lib.hid (OwnI.fr HS.out.o f2 (fun q hq => by rcases hq with rfl | rfl <;> assumption)); have z2 := F2.out.size; clear c2 f2)
          | (at_builtin; refine append_int _ rfl _ _ rfl w.heap.size _ _ rfl O2.out _ rfl hlen z2 ?_; intro v3 w3 o3 b3))
        have S3 : Hid (Sv w w3 lb tb b (pIter (j + 1) p t) v3) := Lib.hid (by
          rw [NX.out]
          exact ⟨o3, ⟨C2.out.bl.below b3 hlb, C2.out.bx.below b3 htb, C2.out.bt.below b3 hbb⟩, F2.out.over b3⟩)
        clear o3 b3 C2 F2 O2 HS
        go_roundw
        case rel => exact ⟨j + 1, by go_num, by omega, S3.out, fun h => by omega⟩
        case measure => simp [intOf]; omega
      · obtain rfl : j = 15 := by omega
        obtain ⟨va, vc, rfl, _, _⟩ := HS.out.o.ints
        go_wp2_with fail
        go_ret
        exact ⟨_, rfl, HS.out, HV0.out⟩
end Go.Proofs.Ytifdljdnpdefgaa
