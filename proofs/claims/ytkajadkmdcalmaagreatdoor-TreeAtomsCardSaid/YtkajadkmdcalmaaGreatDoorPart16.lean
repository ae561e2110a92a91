/-
  WHAT THE ROWS REST ON, part 16: Tgr Ttx.
-/
import Derived.Test.YtkajadkmdcalmaaGreatDoorPart15
/-
  grow: the whole of a pattern, if it may be.
-/
namespace Go.Proofs.YtkajadkmdcalmaaGreatDoor
open Go.RowKit
/-- what grow answers -/
def Grown (w : World) (l : List Nd) (within : Int) (e : Ending) (w' : World) : Prop :=
  Below w.heap.size w w' ∧ ((chkI l within = 0 ∧ ∃ (Bs : List Nat) (h : 0 < Bs.length), Bs.length = l.length ∧ growTo l l.length = true ∧ Parts w' l Bs ∧ e = .returned (.tuple #[ptr Bs[Bs.length - 1], .int .i64 0])) ∨
    (chkI l within ≠ 0 ∧ e = .returned (.tuple #[.pointer none, .int .i64 (chkI l within)])))
/-- what is known of the sizes of a node -/
structure Nd.Ok (n : Nd) : Prop where
  kind : n.kind.size ≤ 281474976710656
  conds : n.conds.length ≤ 100
  kids : n.kids.length ≤ 200
  cs : ∀ c ∈ n.conds, c.Ok ∧ CAny c.v.s
theorem treeB_parts (l : List Nd) (within : Int) (h1 : 0 ≤ within) (h2 : within ≤ 549755813888) : treeB l within = (growTo l l.length && decide ((leftN (kidsTo l l.length) l.length).length = 1) && rootB l) := by
  unfold treeB; rw [decide_eq_true ⟨h1, h2⟩, Bool.true_and]
/-- the rule of a node, by its op -/
theorem ruleB_op (l : List Nd) (n : Nd) : (n.op = 1 ∧ ruleB l n = atomB n) ∨ (n.op = 2 ∧ ruleB l n = seqB l n) ∨ (n.op = 3 ∧ ruleB l n = altB l n) ∨ (n.op = 4 ∧ ruleB l n = loopB l n) ∨ (n.op = 5 ∧ ruleB l n = guardB l n) ∨ ((n.op ≠ 1 ∧ n.op ≠ 2 ∧ n.op ≠ 3 ∧ n.op ≠ 4 ∧ n.op ≠ 5) ∧ ruleB l n = false) := by
  unfold ruleB
  by_cases h1 : n.op = 1
  · exact .inl ⟨h1, if_pos h1⟩
  rw [if_neg h1]
  by_cases h2 : n.op = 2
  · exact .inr (.inl ⟨h2, if_pos h2⟩)
  rw [if_neg h2]
  by_cases h3 : n.op = 3
  · exact .inr (.inr (.inl ⟨h3, if_pos h3⟩))
  rw [if_neg h3]
  by_cases h4 : n.op = 4
  · exact .inr (.inr (.inr (.inl ⟨h4, if_pos h4⟩)))
  rw [if_neg h4]
  by_cases h5 : n.op = 5
  · exact .inr (.inr (.inr (.inr (.inl ⟨h5, if_pos h5⟩))))
  rw [if_neg h5]
  exact .inr (.inr (.inr (.inr (.inr ⟨⟨h1, h2, h3, h4, h5⟩, rfl⟩))))
/-- the call of rule, and that of the rule, of a part that is laid -/
theorem GrT.rule {w w3 : World} {l : List Nd} {Bs : List Nat} {pv : Value} {n : Nd} {G : Nat} (h : GrT w w3 l Bs pv n G) (GG : Good l Bs.length) (hk : kidsIn n Bs.length) (ok : n.Ok) :
    (∀ w', Calls Tryz.prog 36 #[.int .i64 n.op] w' fun e w'' => e = .returned (.func (.func 51) #[] #[]) ∧ w' = w'') ∧ Calls Tryz.prog 51 #[ptr G] w3 (Ruled w3 (ruleB l n)) ∨
    (∀ w', Calls Tryz.prog 36 #[.int .i64 n.op] w' fun e w'' => e = .returned (.func (.func 52) #[] #[]) ∧ w' = w'') ∧ Calls Tryz.prog 52 #[ptr G] w3 (Ruled w3 (ruleB l n)) ∨
    (∀ w', Calls Tryz.prog 36 #[.int .i64 n.op] w' fun e w'' => e = .returned (.func (.func 53) #[] #[]) ∧ w' = w'') ∧ Calls Tryz.prog 53 #[ptr G] w3 (Ruled w3 (ruleB l n)) ∨
    (∀ w', Calls Tryz.prog 36 #[.int .i64 n.op] w' fun e w'' => e = .returned (.func (.func 54) #[] #[]) ∧ w' = w'') ∧ Calls Tryz.prog 54 #[ptr G] w3 (Ruled w3 (ruleB l n)) ∨
    (∀ w', Calls Tryz.prog 36 #[.int .i64 n.op] w' fun e w'' => e = .returned (.func (.func 55) #[] #[]) ∧ w' = w'') ∧ Calls Tryz.prog 55 #[ptr G] w3 (Ruled w3 (ruleB l n)) ∨
    (∀ w', Calls Tryz.prog 36 #[.int .i64 n.op] w' fun e w'' => e = .returned (.func (.func 56) #[] #[]) ∧ w' = w'') ∧ Calls Tryz.prog 56 #[ptr G] w3 (Ruled w3 (ruleB l n)) := by
  have P := h.parts.ok
  have Q := h.part.ok
  rcases ruleB_op l n with ⟨e, r⟩ | ⟨e, r⟩ | ⟨e, r⟩ | ⟨e, r⟩ | ⟨e, r⟩ | ⟨e, r⟩
  · exact .inl ⟨fun w' => by rw [e]; exact rule1 w', by rw [r]; exact atomMay_any Q ok.conds ok.kind ok.kids ok.cs⟩
  · exact .inr (.inl ⟨fun w' => by rw [e]; exact rule2 w', by rw [r]; exact seqMay_any P Q hk ok.kids ok.conds⟩)
  · exact .inr (.inr (.inl ⟨fun w' => by rw [e]; exact rule3 w', by rw [r]; exact altMay_any P Q hk ok.kids ok.conds⟩))
  · exact .inr (.inr (.inr (.inl ⟨fun w' => by rw [e]; exact rule4 w', by rw [r]; exact loopMay_any P GG Q hk ok.kids ok.conds⟩)))
  · exact .inr (.inr (.inr (.inr (.inl ⟨fun w' => by rw [e]; exact rule5 w', by rw [r]; exact guardMay_any P Q hk ok.kids ok.conds⟩))))
  · exact .inr (.inr (.inr (.inr (.inr ⟨fun w' => rule0 _ w' e, by rw [r]; exact none_any _ w3⟩))))
theorem delnone_any (w : World) : Calls Tryz.prog 37 #[.slice none 0 0, .func (.func 38) #[] #[]] w fun e w' => e = .returned (.slice none 0 0) ∧ w = w' := by
  have IX := Lib.hid (index38 (w := w) (pa := none) (L := []) 0 (fun p hp => absurd hp (Nat.not_lt_zero p)) (by simp) (fun _ => false) (fun j hj => absurd hj (Nat.not_lt_zero j)))
  have e := Lib.hid (firstAt_none (p := fun _ => false) (n := 0) (fun i hi => absurd hi (Nat.not_lt_zero i)))
  go_enter Tryz.func37, Tryz.ntmps37
  go_wp2_with (go_at_call 57; refine IX.out.mono ?_; rintro e1 w' ⟨rfl, rfl⟩; rw [List.length_nil, e.out])
  go_ret
  exact ⟨rfl, rfl⟩
theorem Nums.mono {w : World} {B B' : Nat} {a : Option Addr} {xs : List Int} (h : Nums w B a xs) (hb : B ≤ B') : Nums w B' a xs := fun i hi => by
  obtain ⟨g, o, e, hl, c⟩ := h i hi
  exact ⟨g, o, e, by omega, c⟩
set_option maxHeartbeats 16000000 in
set_option maxRecDepth 100000 in
theorem grow_any {w : World} {l : List Nd} {na : Option Addr} (nc : Nat) (within : Int) (hl : l.length ≤ 200) (hN : Nods w w.heap.size na l) (hok : ∀ n ∈ l, n.Ok) :
    Calls Tryz.prog 25 #[.agg #[.slice na l.length nc, .int .i64 within]] w (Grown w l within) := by
  obtain ⟨W0, hW0, BW0⟩ : ∃ W0, W0 = w.alloc (.cells #[.slice na l.length nc, .int .i64 within] 24) ∧ Below w.heap.size w W0 := ⟨_, rfl, (Below.refl _ _).alloc (Nat.le_refl _) _⟩
  have hs0 : W0.heap.size = w.heap.size + 1 := by rw [hW0]; simp
  have HW0 := Lib.hid hW0
  have HB0 := Lib.hid BW0
  by_cases h64 : 64 < l.length
  · have FIN := Lib.hid (show Grown w l within (.returned (.tuple #[.pointer none, .int .i64 2])) W0 from ⟨BW0, .inr (by unfold chkI; rw [if_pos h64]; exact ⟨by decide, rfl⟩)⟩)
    have hI : (64 : Int) < (l.length : Int) := by omega
    clear hN hok hW0 BW0 hs0
    generalize l.length = n at *
    go_enter Tryz.func25, Tryz.ntmps25
    go_wp2_with fail
    rw [← HW0.out]
    go_ret2
    exact FIN.out
  have h64I : ¬ (64 : Int) < (l.length : Int) := by omega
  have h64J : decide ((64 : Int) < (l.length : Int)) = false := decide_eq_false h64I
  by_cases hw1 : within < 0
  · have FIN := Lib.hid (show Grown w l within (.returned (.tuple #[.pointer none, .int .i64 100])) W0 from ⟨BW0, .inr (by
      unfold chkI; rw [if_neg h64]; unfold treeB; rw [decide_eq_false (show ¬ (0 ≤ within ∧ within ≤ 549755813888) by omega)]; exact ⟨by simp, by simp⟩)⟩)
    clear hN hok hW0 BW0 hs0
    generalize l.length = n at *
    go_enter Tryz.func25, Tryz.ntmps25
    go_wp2_with fail
    rw [← HW0.out]
    go_ret2
    exact FIN.out
  by_cases hw2 : 549755813888 < within
  · have FIN := Lib.hid (show Grown w l within (.returned (.tuple #[.pointer none, .int .i64 100])) W0 from ⟨BW0, .inr (by
      unfold chkI; rw [if_neg h64]; unfold treeB; rw [decide_eq_false (show ¬ (0 ≤ within ∧ within ≤ 549755813888) by omega)]; exact ⟨by simp, by simp⟩)⟩)
    clear hN hok hW0 BW0 hs0
    generalize l.length = n at *
    go_enter Tryz.func25, Tryz.ntmps25
    go_wp2_with fail
    rw [← HW0.out]
    go_ret2
    exact FIN.out
  have CH := Lib.hid (show chkI l within = if treeB l within then 0 else 100 by unfold chkI; rw [if_neg h64])
  have TB := Lib.hid (treeB_parts l within (by omega) (by omega))
  have H100 := Lib.hid (fun (w' : World) (b : Below w.heap.size w w') (hg : growTo l l.length = false) => show Grown w l within (.returned (.tuple #[.pointer none, .int .i64 100])) w' from ⟨b, .inr (by
    rw [CH.out, TB.out, hg]; exact ⟨by simp, by simp⟩)⟩)
  have I0 := Lib.hid (show GrI w W0 l [] (.slice none 0 0) from ⟨World.ownsRow_nil _ _ _ _, ⟨Nat.zero_le _, fun i hi => absurd hi (Nat.not_lt_zero i)⟩, BW0, by omega⟩)
  have NO := Lib.hid hN
  have OK := Lib.hid hok
  have FEW := Lib.hid (fun i (h : i < l.length) => (hok _ (List.getElem_mem h)).kids)
  obtain ⟨n, hn⟩ : ∃ n, n = l.length := ⟨_, rfl⟩
  have HN := Lib.hid hn
  have hnI : (n : Int) ≤ 64 := by omega
  rw [← hn] at h64I h64J HW0 hl ⊢
  clear hN hok hW0 BW0 hn h64
  go_enter Tryz.func25, Tryz.ntmps25
  go_wp2_with fail
  rw [← HW0.out]
  go_loopw [4, 25] (fun pv i wr => ∃ (Bs : List Nat) (j : Nat), i = .int .i64 j ∧ j = Bs.length ∧ j ≤ n ∧ Hid (GrI w wr l Bs pv) ∧ Hid (growTo l j = true)) (fun _ i wr => n - (intOf i).toNat)
  case atStart => exact ⟨[], 0, rfl, rfl, Nat.zero_le _, I0, Lib.hid rfl⟩
  case round =>
    obtain ⟨Bs, j, rfl, hj, hjn, hI, hG⟩ := hrel
    clear I0
    have HJ := Lib.hid hj
    clear hj
    by_cases hlt : j < n
    · have jI : (j : Int) < (n : Int) := by omega
      have hjL : j < l.length := by rw [← HN.out]; exact hlt
      obtain ⟨g0, o, ca, cc, ka, kc, rfl, hg0, x0, x1, x2, x3, x4, x5, hcs, hks⟩ := (NO.out.below hI.out.b) j hjL
      have hok := OK.out _ (List.getElem_mem hjL)
      have GG := Lib.hid (show Good l Bs.length from good_of (by rw [← HJ.out]; exact hG.out) (by rw [← HJ.out]; omega) FEW.out)
      have GS := growTo_succ hjL
      rw [hG.out, Bool.true_and] at GS
      have GF := Lib.hid (fun (h : (takeOk (kidsTo l j) j l[j].kids && ruleB l l[j]) = false) => growTo_false (l := l) (j := j + 1) (n := l.length) (by omega) (by rw [GS]; exact h))
      have GY := Lib.hid (fun (h : (takeOk (kidsTo l j) j l[j].kids && ruleB l l[j]) = true) => show growTo l (j + 1) = true by rw [GS]; exact h)
      have KT := kidsTo_lt hG.out (by omega)
      have PU0 := Lib.hid (fun (w3 : World) (G : Nat) (hk : kidsIn l[j] Bs.length) (gt : GrT w w3 l Bs u4 l[j] G) (w4 w5 : World) (g cap : Nat) (b4 : Below w3.heap.size w3 w4) (ho : w5.ownsRow (w.heap.size + 1) 62 1 (.slice (some ⟨g, 0, none⟩) (j + 1) cap) (j + 1) (pcells Bs (kidsTo l Bs.length ++ l[j].kids) ++ [ptr G])) (hg : w4.grownBy w5 u4.ownBlock) (hat : u4.ownBlock = some g ∨ w4.heap.size < g) => show GrI w w5 l (Bs ++ [G]) (.slice (some ⟨g, 0, none⟩) (j + 1) cap) by
        have hj := HJ.out
        subst hj
        exact GrT.push hjL (gt.below b4) GG.out hk (fun k hm => by have := KT k hm; omega) ho hg hat)
      have NUM := Lib.hid (fun o' => (hks.below ((Below.refl w.heap.size wr).alloc (by have := hI.out.sz; omega) o')).mono (Nat.le_succ _))
      have hks := Lib.hid hks
      have hcs := Lib.hid hcs
      have hok := Lib.hid hok
      clear GS KT
      generalize hnd : l[j] = nd at *
      clear hnd
      obtain ⟨W1, hW1⟩ : ∃ W1, W1 = wr.alloc (.cells #[.int .i64 nd.op, .string nd.kind, .slice ca nd.conds.length cc, .int .i64 nd.lo, .int .i64 nd.hi, .slice ka nd.kids.length kc] 43) := ⟨_, rfl⟩
      have K1 : Blk W1 wr.heap.size 43 #[.int .i64 nd.op, .string nd.kind, .slice ca nd.conds.length cc, .int .i64 nd.lo, .int .i64 nd.hi, .slice ka nd.kids.length kc] := by rw [hW1]; exact heap_alloc_new wr _
      have I1 := hI.out.alloc (.cells #[.int .i64 nd.op, .string nd.kind, .slice ca nd.conds.length cc, .int .i64 nd.lo, .int .i64 nd.hi, .slice ka nd.kids.length kc] 43)
      have N1 := NUM.out (.cells #[.int .i64 nd.op, .string nd.kind, .slice ca nd.conds.length cc, .int .i64 nd.lo, .int .i64 nd.hi, .slice ka nd.kids.length kc] 43)
      rw [← hW1] at I1 N1
      have C1 : CndsB W1 w.heap.size ca nd.conds := by rw [hW1]; exact hcs.out.below ((Below.refl w.heap.size wr).alloc (by have := hI.out.sz; omega) _)
      have TK := Lib.hid (takeV_any (T := kidsTo l Bs.length) kc (by rw [← HJ.out]; omega) hok.out.kids N1 I1.row)
      have XX := Lib.hid (fun x e => (hI.out.x x e).2)
      have HW1 := Lib.hid hW1
      have I1h := Lib.hid I1
      have C1h := Lib.hid C1
      have K1h := Lib.hid K1
      clear I1 N1 C1 K1 hW1 hI hG NUM
      go_wp2_with fail
      rw [← HW1.out]
      refine TK.out.mono ?_
      rintro e w2 hT
      have KB : ∀ (h : W1.grownBy w2 u4.ownBlock), Blk w2 wr.heap.size 43 #[.int .i64 nd.op, .string nd.kind, .slice ca nd.conds.length cc, .int .i64 nd.lo, .int .i64 nd.hi, .slice ka nd.kids.length kc] := fun h =>
        (h.block _ K1h.out.lt (fun e => by have := XX.out _ e.symm; omega)).trans K1h.out
      rcases hT with ⟨t1, a, c, rfl, t3, t4, t5⟩ | ⟨t1, rfl, t5⟩
      · have K2 := KB t5
        have hk1 : kidsIn nd Bs.length := takeOk_in t1
        have GTH := Lib.hid (I1h.out.take (n := nd) (ka := ka) (kc := kc) (cc := cc) t3 t4 t5 (C1h.out.below (gb_low t5 (fun x e => by have := (I1h.out.x x e).1; omega) (by have := I1h.out.sz; omega))))
        have RU := GTH.out.rule GG.out hk1 hok.out
        have T1 := Lib.hid (show takeOk (kidsTo l j) j nd.kids = true by rw [HJ.out]; exact t1)
        have PU := Lib.hid (PU0.out _ _ hk1 GTH.out)
        rw [← HJ.out] at t1
        obtain ⟨W3, hW3⟩ : ∃ W3, W3 = w2.alloc (.cells #[.int .i64 nd.op, .string nd.kind, .slice ca nd.conds.length cc, .int .i64 nd.lo, .int .i64 nd.hi, .slice ka nd.kids.length kc, .slice a nd.kids.length c] 92) := ⟨_, rfl⟩
        have Z3 : w.heap.size + 1 ≤ W3.heap.size := by rw [hW3]; exact GTH.out.sz
        rw [← hW3] at GTH RU PU
        have HW3 := Lib.hid hW3
        have y0 : w2.cell? ⟨wr.heap.size, 0, none⟩ = some (.int .i64 nd.op) := K2.cell 0
        have y1 : w2.cell? ⟨wr.heap.size, 1, none⟩ = some (.string nd.kind) := K2.cell 1
        have y2 : w2.cell? ⟨wr.heap.size, 2, none⟩ = some (.slice ca nd.conds.length cc) := K2.cell 2
        have y3 : w2.cell? ⟨wr.heap.size, 3, none⟩ = some (.int .i64 nd.lo) := K2.cell 3
        have y4 : w2.cell? ⟨wr.heap.size, 4, none⟩ = some (.int .i64 nd.hi) := K2.cell 4
        have y5 : w2.cell? ⟨wr.heap.size, 5, none⟩ = some (.slice ka nd.kids.length kc) := K2.cell 5
        have yz : wr.heap.size < w2.heap.size := K2.lt
        clear hW3 K2 KB t1 t3 t4 t5 PU0 I1h C1h K1h TK XX HW1 x0 x1 x2 x3 x4 x5
        rcases RU with ⟨R36, RC⟩ | ⟨R36, RC⟩ | ⟨R36, RC⟩ | ⟨R36, RC⟩ | ⟨R36, RC⟩ | ⟨R36, RC⟩
        · have R36 := Lib.hid R36
          have RC := Lib.hid RC
          cases hb : ruleB l nd
          · have FB := Lib.hid (GF.out (by rw [hb]; simp))
            rw [hb] at RC
            unfold Ruled ptr at RC
            clear hb
            go_wp2_with (first | (go_at_call 36; refine (R36.out _).mono ?_; rintro e w' ⟨rfl, rfl⟩) | (go_at_call 51; rw [← HW3.out]; refine RC.out.mono ?_; rintro e w4 ⟨rfl, b4⟩))
            go_ret2
            exact H100.out _ (GTH.out.b.trans (b4.mono (by have := GTH.out.sz; omega))) FB.out
          · have FB := Lib.hid (GY.out (by rw [hb, T1.out]; rfl))
            rw [hb] at RC
            unfold Ruled ptr at RC
            clear hb
            go_wp2_with (first | (go_at_call 36; refine (R36.out _).mono ?_; rintro e w' ⟨rfl, rfl⟩) | (go_at_call 51; rw [← HW3.out]; refine RC.out.mono ?_; rintro e w4 ⟨rfl, b4⟩) | (at_builtin; refine append_val w4 rfl (.tmp 50) (.tmp 52) rfl (w.heap.size + 1) u4 j _ rfl (by rw [HJ.out]; exact (GTH.out.below b4).row) (some ⟨w2.heap.size, 0, none⟩) rfl (by omega) (GTH.out.below b4).sz ?_; intro g5 cap5 w5 ho5 hg5 hat5; have I5 := Lib.hid (PU.out w4 w5 g5 cap5 b4 ho5 hg5 hat5); clear ho5 hg5 hat5))
            go_roundw
            case rel => exact ⟨Bs ++ [w2.heap.size], j + 1, by go_num, by simp [HJ.out], by omega, I5, FB⟩
            case measure => simp [intOf]; omega
        · have R36 := Lib.hid R36
          have RC := Lib.hid RC
          cases hb : ruleB l nd
          · have FB := Lib.hid (GF.out (by rw [hb]; simp))
            rw [hb] at RC
            unfold Ruled ptr at RC
            clear hb
            go_wp2_with (first | (go_at_call 36; refine (R36.out _).mono ?_; rintro e w' ⟨rfl, rfl⟩) | (go_at_call 52; rw [← HW3.out]; refine RC.out.mono ?_; rintro e w4 ⟨rfl, b4⟩))
            go_ret2
            exact H100.out _ (GTH.out.b.trans (b4.mono (by have := GTH.out.sz; omega))) FB.out
          · have FB := Lib.hid (GY.out (by rw [hb, T1.out]; rfl))
            rw [hb] at RC
            unfold Ruled ptr at RC
            clear hb
            go_wp2_with (first | (go_at_call 36; refine (R36.out _).mono ?_; rintro e w' ⟨rfl, rfl⟩) | (go_at_call 52; rw [← HW3.out]; refine RC.out.mono ?_; rintro e w4 ⟨rfl, b4⟩) | (at_builtin; refine append_val w4 rfl (.tmp 50) (.tmp 52) rfl (w.heap.size + 1) u4 j _ rfl (by rw [HJ.out]; exact (GTH.out.below b4).row) (some ⟨w2.heap.size, 0, none⟩) rfl (by omega) (GTH.out.below b4).sz ?_; intro g5 cap5 w5 ho5 hg5 hat5; have I5 := Lib.hid (PU.out w4 w5 g5 cap5 b4 ho5 hg5 hat5); clear ho5 hg5 hat5))
            go_roundw
            case rel => exact ⟨Bs ++ [w2.heap.size], j + 1, by go_num, by simp [HJ.out], by omega, I5, FB⟩
            case measure => simp [intOf]; omega
        · have R36 := Lib.hid R36
          have RC := Lib.hid RC
          cases hb : ruleB l nd
          · have FB := Lib.hid (GF.out (by rw [hb]; simp))
            rw [hb] at RC
            unfold Ruled ptr at RC
            clear hb
            go_wp2_with (first | (go_at_call 36; refine (R36.out _).mono ?_; rintro e w' ⟨rfl, rfl⟩) | (go_at_call 53; rw [← HW3.out]; refine RC.out.mono ?_; rintro e w4 ⟨rfl, b4⟩))
            go_ret2
            exact H100.out _ (GTH.out.b.trans (b4.mono (by have := GTH.out.sz; omega))) FB.out
          · have FB := Lib.hid (GY.out (by rw [hb, T1.out]; rfl))
            rw [hb] at RC
            unfold Ruled ptr at RC
            clear hb
            go_wp2_with (first | (go_at_call 36; refine (R36.out _).mono ?_; rintro e w' ⟨rfl, rfl⟩) | (go_at_call 53; rw [← HW3.out]; refine RC.out.mono ?_; rintro e w4 ⟨rfl, b4⟩) | (at_builtin; refine append_val w4 rfl (.tmp 50) (.tmp 52) rfl (w.heap.size + 1) u4 j _ rfl (by rw [HJ.out]; exact (GTH.out.below b4).row) (some ⟨w2.heap.size, 0, none⟩) rfl (by omega) (GTH.out.below b4).sz ?_; intro g5 cap5 w5 ho5 hg5 hat5; have I5 := Lib.hid (PU.out w4 w5 g5 cap5 b4 ho5 hg5 hat5); clear ho5 hg5 hat5))
            go_roundw
            case rel => exact ⟨Bs ++ [w2.heap.size], j + 1, by go_num, by simp [HJ.out], by omega, I5, FB⟩
            case measure => simp [intOf]; omega
        · have R36 := Lib.hid R36
          have RC := Lib.hid RC
          cases hb : ruleB l nd
          · have FB := Lib.hid (GF.out (by rw [hb]; simp))
            rw [hb] at RC
            unfold Ruled ptr at RC
            clear hb
            go_wp2_with (first | (go_at_call 36; refine (R36.out _).mono ?_; rintro e w' ⟨rfl, rfl⟩) | (go_at_call 54; rw [← HW3.out]; refine RC.out.mono ?_; rintro e w4 ⟨rfl, b4⟩))
            go_ret2
            exact H100.out _ (GTH.out.b.trans (b4.mono (by have := GTH.out.sz; omega))) FB.out
          · have FB := Lib.hid (GY.out (by rw [hb, T1.out]; rfl))
            rw [hb] at RC
            unfold Ruled ptr at RC
            clear hb
            go_wp2_with (first | (go_at_call 36; refine (R36.out _).mono ?_; rintro e w' ⟨rfl, rfl⟩) | (go_at_call 54; rw [← HW3.out]; refine RC.out.mono ?_; rintro e w4 ⟨rfl, b4⟩) | (at_builtin; refine append_val w4 rfl (.tmp 50) (.tmp 52) rfl (w.heap.size + 1) u4 j _ rfl (by rw [HJ.out]; exact (GTH.out.below b4).row) (some ⟨w2.heap.size, 0, none⟩) rfl (by omega) (GTH.out.below b4).sz ?_; intro g5 cap5 w5 ho5 hg5 hat5; have I5 := Lib.hid (PU.out w4 w5 g5 cap5 b4 ho5 hg5 hat5); clear ho5 hg5 hat5))
            go_roundw
            case rel => exact ⟨Bs ++ [w2.heap.size], j + 1, by go_num, by simp [HJ.out], by omega, I5, FB⟩
            case measure => simp [intOf]; omega
        · have R36 := Lib.hid R36
          have RC := Lib.hid RC
          cases hb : ruleB l nd
          · have FB := Lib.hid (GF.out (by rw [hb]; simp))
            rw [hb] at RC
            unfold Ruled ptr at RC
            clear hb
            go_wp2_with (first | (go_at_call 36; refine (R36.out _).mono ?_; rintro e w' ⟨rfl, rfl⟩) | (go_at_call 55; rw [← HW3.out]; refine RC.out.mono ?_; rintro e w4 ⟨rfl, b4⟩))
            go_ret2
            exact H100.out _ (GTH.out.b.trans (b4.mono (by have := GTH.out.sz; omega))) FB.out
          · have FB := Lib.hid (GY.out (by rw [hb, T1.out]; rfl))
            rw [hb] at RC
            unfold Ruled ptr at RC
            clear hb
            go_wp2_with (first | (go_at_call 36; refine (R36.out _).mono ?_; rintro e w' ⟨rfl, rfl⟩) | (go_at_call 55; rw [← HW3.out]; refine RC.out.mono ?_; rintro e w4 ⟨rfl, b4⟩) | (at_builtin; refine append_val w4 rfl (.tmp 50) (.tmp 52) rfl (w.heap.size + 1) u4 j _ rfl (by rw [HJ.out]; exact (GTH.out.below b4).row) (some ⟨w2.heap.size, 0, none⟩) rfl (by omega) (GTH.out.below b4).sz ?_; intro g5 cap5 w5 ho5 hg5 hat5; have I5 := Lib.hid (PU.out w4 w5 g5 cap5 b4 ho5 hg5 hat5); clear ho5 hg5 hat5))
            go_roundw
            case rel => exact ⟨Bs ++ [w2.heap.size], j + 1, by go_num, by simp [HJ.out], by omega, I5, FB⟩
            case measure => simp [intOf]; omega
        · have R36 := Lib.hid R36
          have RC := Lib.hid RC
          cases hb : ruleB l nd
          · have FB := Lib.hid (GF.out (by rw [hb]; simp))
            rw [hb] at RC
            unfold Ruled ptr at RC
            clear hb
            go_wp2_with (first | (go_at_call 36; refine (R36.out _).mono ?_; rintro e w' ⟨rfl, rfl⟩) | (go_at_call 56; rw [← HW3.out]; refine RC.out.mono ?_; rintro e w4 ⟨rfl, b4⟩))
            go_ret2
            exact H100.out _ (GTH.out.b.trans (b4.mono (by have := GTH.out.sz; omega))) FB.out
          · have FB := Lib.hid (GY.out (by rw [hb, T1.out]; rfl))
            rw [hb] at RC
            unfold Ruled ptr at RC
            clear hb
            go_wp2_with (first | (go_at_call 36; refine (R36.out _).mono ?_; rintro e w' ⟨rfl, rfl⟩) | (go_at_call 56; rw [← HW3.out]; refine RC.out.mono ?_; rintro e w4 ⟨rfl, b4⟩) | (at_builtin; refine append_val w4 rfl (.tmp 50) (.tmp 52) rfl (w.heap.size + 1) u4 j _ rfl (by rw [HJ.out]; exact (GTH.out.below b4).row) (some ⟨w2.heap.size, 0, none⟩) rfl (by omega) (GTH.out.below b4).sz ?_; intro g5 cap5 w5 ho5 hg5 hat5; have I5 := Lib.hid (PU.out w4 w5 g5 cap5 b4 ho5 hg5 hat5); clear ho5 hg5 hat5))
            go_roundw
            case rel => exact ⟨Bs ++ [w2.heap.size], j + 1, by go_num, by simp [HJ.out], by omega, I5, FB⟩
            case measure => simp [intOf]; omega
      · have K2 := KB t5
        have FB := Lib.hid (GF.out (by rw [← HJ.out] at t1; rw [t1, Bool.false_and]))
        have B2 := Lib.hid (show Below w.heap.size w w2 from I1h.out.b.trans (gb_low t5 (fun x e => by have := (I1h.out.x x e).1; omega) (by have := I1h.out.sz; omega)))
        have y0 : w2.cell? ⟨wr.heap.size, 0, none⟩ = some (.int .i64 nd.op) := K2.cell 0
        have y1 : w2.cell? ⟨wr.heap.size, 1, none⟩ = some (.string nd.kind) := K2.cell 1
        have y2 : w2.cell? ⟨wr.heap.size, 2, none⟩ = some (.slice ca nd.conds.length cc) := K2.cell 2
        have y3 : w2.cell? ⟨wr.heap.size, 3, none⟩ = some (.int .i64 nd.lo) := K2.cell 3
        have y4 : w2.cell? ⟨wr.heap.size, 4, none⟩ = some (.int .i64 nd.hi) := K2.cell 4
        have y5 : w2.cell? ⟨wr.heap.size, 5, none⟩ = some (.slice ka nd.kids.length kc) := K2.cell 5
        have yz : w.heap.size ≤ w2.heap.size := B2.out.size
        clear K2 KB t1 t5 PU0 I1h C1h K1h TK XX HW1 x0 x1 x2 x3 x4 x5
        go_wp2_with fail
        go_ret2
        exact H100.out _ (B2.out.alloc yz _) FB.out
    · have hjn2 : j = n := by omega
      have hBn : Bs.length = l.length := by rw [← HJ.out, hjn2, HN.out]
      have GL : growTo l l.length = true := by rw [← hBn, ← HJ.out]; exact hG.out
      have jI : ¬ (j : Int) < (n : Int) := by omega
      have l1 : j = l.length := by rw [hjn2]; exact HN.out
      subst l1
      have H1 := Lib.hid (fun (w' : World) (b : Below w.heap.size w w') (hg : (decide ((leftN (kidsTo l l.length) l.length).length = 1) && rootB l) = false) => show Grown w l within (.returned (.tuple #[.pointer none, .int .i64 100])) w' from ⟨b, .inr (by
        rw [CH.out, TB.out, GL, Bool.true_and, hg]; exact ⟨by simp, by simp⟩)⟩)
      have I := hI.out
      rcases I.row.2 with ⟨e, e0⟩ | ⟨X, c, cur, e, hbX, hX, -⟩
      · subst e
        have l0 : l.length = 0 := by rw [← hBn]; exact e0
        have FB := Lib.hid (H1.out wr I.b (by rw [l0]; rfl))
        have DN := Lib.hid (delnone_any wr)
        clear I hI H1 CH TB H100 GL hjn2 hBn l0 e0
        go_wp2_with (go_at_call 37; refine DN.out.mono ?_; rintro e w2 ⟨rfl, rfl⟩)
        go_ret2
        exact FB.out
      · subst e
        have hrow := I.row
        have hlp := pcells_len Bs (kidsTo l Bs.length)
        have DF := delfunc_any (vs := pcells Bs (kidsTo l Bs.length)) (by rw [hlp, hBn, ← HN.out]; omega) (fun i hi => by
          have hi' : i < Bs.length := by rw [hlp] at hi; exact hi
          have := pcells_at (T := kidsTo l Bs.length) hi'
          rw [List.getElem?_eq_getElem hi] at this
          injection this with this
          rw [this]
          unfold pcell
          cases (kidsTo l Bs.length).contains (i : Int)
          · exact ⟨_, rfl⟩
          · exact ⟨_, rfl⟩) (by rw [hlp]; exact hrow)
        rw [hlp] at DF
        unfold Deld at DF
        rw [left_parts, List.length_map] at DF
        have PX := Lib.hid (fun (w2 : World) (hg : wr.grownBy w2 (some X)) => (I.parts.grown hg (fun x e => by have e' : some X = some x := e; injection e' with e'; omega) (by have := I.sz; omega) : PartsX w2 w.heap.size l Bs _))
        have PB := Lib.hid (fun (w2 : World) (hg : wr.grownBy w2 (some X)) => I.b.trans (gb_low hg (fun x e => by have e' : some X = some x := e; injection e' with e'; omega) (by have := I.sz; omega)))
        have DFh := Lib.hid DF
        clear DF I hI hrow hX
        by_cases hm0 : (leftN (kidsTo l Bs.length) Bs.length).length = 1
        · have hm : (leftN (kidsTo l l.length) l.length).length = 1 := by rw [← hBn]; exact hm0
          have hpos : 0 < l.length := by
            rcases Nat.eq_zero_or_pos l.length with h | h
            · rw [h] at hm; exact absurd hm (by show ¬ (0 = 1); decide)
            · exact h
          have hTA : takeAll l l.length = true := by
            have := growTo_eq (Nat.le_refl l.length)
            rw [GL] at this
            have := this.symm
            rw [Bool.and_eq_true] at this
            exact this.1
          have hone := (left_one hTA hpos).2
          have hL : leftN (kidsTo l l.length) l.length = [l.length - 1] := by
            cases h : leftN (kidsTo l l.length) l.length with
            | nil => rw [h] at hm; exact absurd hm (by decide)
            | cons a t =>
              rw [h] at hm hone
              have : t = [] := List.length_eq_zero_iff.1 (by simpa using hm)
              subst this
              simp at hone
              rw [hone]
          have hlast : l.length - 1 < Bs.length := by omega
          have eG : Bs.getD (l.length - 1) 0 = Bs[Bs.length - 1]'(by omega) := by
            rw [List.getD_eq_getElem?_getD, List.getElem?_eq_getElem hlast]
            simp [hBn]
          rw [show leftN (kidsTo l Bs.length) Bs.length = [l.length - 1] by rw [hBn]; exact hL] at DFh
          simp only [List.map_cons, List.map_nil, List.length_singleton] at DFh
          rw [eG] at DFh
          have TOP := Lib.hid (fun (w2 : World) (hg : wr.grownBy w2 (some X)) => by
            have GG : Good l Bs.length := good_of (by rw [hBn]; exact GL) (by omega) FEW.out
            have := top_any (PX.out w2 hg).ok GG (by omega) (Bs.length - 1) (by omega)
            exact this)
          have eR : rootB l = topB l (Bs.length - 1) := by
            unfold rootB topB
            rw [hBn, show ((l.length - 1 : Nat) : Int) = (l.length : Int) - 1 by omega]
          have HY := Lib.hid (fun (w2 : World) (hg : wr.grownBy w2 (some X)) (hr : topB l (Bs.length - 1) = true) => show Grown w l within (.returned (.tuple #[ptr (Bs[Bs.length - 1]'(by omega)), .int .i64 0])) w2 from ⟨PB.out w2 hg, .inl ⟨by
            rw [CH.out, TB.out, GL, eR, hr, hm]; rfl, Bs, by omega, hBn, GL, (PX.out w2 hg).ok, rfl⟩⟩)
          have HZ := Lib.hid (fun (w2 : World) (hg : wr.grownBy w2 (some X)) (hr : topB l (Bs.length - 1) = false) => H1.out w2 (PB.out w2 hg) (by rw [eR, hr, Bool.and_false]))
          have CELL := Lib.hid (fun (w2 : World) (v : Value) (h : w2.ownsRow (w.heap.size + 1) 62 1 (.slice (some ⟨X, 0, none⟩) 1 c) 1 [v]) => show w2.cell? ⟨X, 0, none⟩ = some v by rw [World.ownsRow.cellAt h 0 (by omega)]; rfl)
          generalize Bs[Bs.length - 1] = B0 at *
          clear hL hone hTA hm hm0 eG eR GL PX PB H1 CH TB H100 hjn2 hlast
          have HBn := Lib.hid hBn
          clear hBn hlp
          generalize topB l (Bs.length - 1) = tb at *
          unfold ptr at DFh TOP HY
          cases tb
          · go_wp2_with (first | (go_at_call 37; refine DFh.out.mono ?_; rintro e w2 ⟨rfl, r2, g2⟩; have cl := CELL.out w2 _ r2; have T2 := Lib.hid (TOP.out w2 g2); have Z2 := Lib.hid (HZ.out w2 g2 rfl); clear r2 g2) | (go_at_call 39; refine T2.out.mono ?_; rintro e w3 ⟨rfl, rfl⟩))
            go_ret2
            exact Z2.out
          · go_wp2_with (first | (go_at_call 37; refine DFh.out.mono ?_; rintro e w2 ⟨rfl, r2, g2⟩; have cl := CELL.out w2 _ r2; have T2 := Lib.hid (TOP.out w2 g2); have Z2 := Lib.hid (HY.out w2 g2 rfl); clear r2 g2) | (go_at_call 39; refine T2.out.mono ?_; rintro e w3 ⟨rfl, rfl⟩))
            go_ret2
            exact Z2.out
        · have HZ := Lib.hid (fun (w2 : World) (hg : wr.grownBy w2 (some X)) => H1.out w2 (PB.out w2 hg) (by rw [← hBn, decide_eq_false hm0, Bool.false_and]))
          have m1 : (((leftN (kidsTo l Bs.length) Bs.length).length : Int) != 1) = true := by simp; omega
          have m2 : (((leftN (kidsTo l Bs.length) Bs.length).length : Int) == 1) = false := by simp; omega
          clear GL PX PB H1 CH TB H100 hm0 hjn2 hBn hlp
          generalize (leftN (kidsTo l Bs.length) Bs.length).length = m at *
          go_wp2_with (go_at_call 37; refine DFh.out.mono ?_; rintro e w2 ⟨rfl, r2, g2⟩; have Z2 := Lib.hid (HZ.out w2 g2); clear r2 g2)
          go_ret2
          exact Z2.out
end Go.Proofs.YtkajadkmdcalmaaGreatDoor
/-
  text, Check AND Show.
-/
namespace Go.Proofs.YtkajadkmdcalmaaGreatDoor
open Go.RowKit
def ItoaAt (w0 : World) (b : Nat) (n : Int) : Prop := ∀ w', Below b w0 w' → Calls Tryz.prog 42 #[.int .i64 n] w' fun e w'' => e = .returned (.string ⟨(Lib.itoa n).toArray⟩) ∧ Below w'.heap.size w' w''
set_option maxHeartbeats 4000000 in
set_option maxRecDepth 100000 in
theorem text_any {w : World} {Bs : List Nat} {l : List Nd} (P : Parts w l Bs) (G : Good l Bs.length) (hB : Bs.length = l.length) (h1 : 0 < Bs.length) (A : Wra w w.heap.size l Bs.length) (within : Int) (IT : within ≠ 0 → ItoaAt w w.heap.size within)
    (hlen : (wholeT l within).length ≤ 140737488355328) :
    Calls Tryz.prog 26 #[ptr (Bs[Bs.length - 1]'(by omega)), .int .i64 within] w fun e w' => e = .returned (.string ⟨(wholeT l within).toArray⟩) ∧ Below w.heap.size w w' := by
  have hlt : Bs.length - 1 < Bs.length := by omega
  have WT : wholeT l within = txtF l (Bs.length - 1) ++ (if within = 0 then [] else [32, 119, 105, 116, 104, 105, 110, 32] ++ Lib.itoa within) := by unfold wholeT; rw [← hB]
  rw [WT] at hlen ⊢
  rw [List.length_append] at hlen
  obtain ⟨b, hb⟩ : ∃ b, b = w.heap.size := ⟨_, rfl⟩
  obtain ⟨W1, hW1⟩ : ∃ W1, W1 = w.alloc (.cells #[.pointer none, .slice none 0 0] 99) := ⟨_, rfl⟩
  have BD : Bd W1 b [] := by rw [hW1, hb]; exact Lib.fresh_isBuilder 99 5 w
  have B1 : Below b w W1 := by rw [hW1, hb]; exact (Below.refl _ _).alloc (Nat.le_refl _) _
  have WR := Lib.hid (write_any P G hb (by rw [hb]; exact A) (Bs.length - 1) hlt W1 [] B1 BD (by rw [List.length_nil]; omega))
  have HW1 := Lib.hid hW1
  have HB := Lib.hid hb
  have B1h := Lib.hid B1
  generalize Bs[Bs.length - 1] = g at *
  clear P G A hW1 BD B1 WT hB
  generalize txtF l (Bs.length - 1) = tx at *
  clear hlt h1
  rw [← hb]
  clear hb
  unfold ptr at *
  have eB : ∀ (w9 : World) (L : List UInt8), Wrt W1 b L w9 → Below b w w9 := fun w9 L h => B1h.out.trans h.bel
  have EB := Lib.hid eB
  clear eB
  by_cases hw0 : within = 0
  · subst hw0
    rw [if_pos rfl, List.append_nil]
    go_enter Tryz.func26, Tryz.ntmps26
    go_wp2_with fail
    rw [← HB.out, ← HW1.out]
    (with_reducible refine WR.out.mono ?_)
    rintro e v ⟨rfl, h2⟩
    rw [List.nil_append] at h2
    have ST := Lib.hid (Tryz.Builder_String_any b b tx v h2.bd (Nat.le_of_lt h2.bd.lt))
    have H2 := Lib.hid h2
    clear h2
    go_wp2_with fail
    (with_reducible refine ST.out.mono ?_)
    rintro e v2 ⟨rfl, b2⟩
    have F2 := Lib.hid ((EB.out v _ H2.out).trans b2)
    clear b2
    go_wp2_with fail
    go_ret
    exact ⟨rfl, F2.out⟩
  · have wb : (within == 0) = false := by simpa using hw0
    have wb2 : (within != 0) = true := by simpa using hw0
    rw [if_neg hw0] at hlen ⊢
    have ITh := Lib.hid (IT hw0)
    have hl2 : tx.length + (8 + (Lib.itoa within).length) ≤ 140737488355328 := by rw [List.length_append] at hlen; simpa using hlen
    clear hw0 hlen IT
    go_enter Tryz.func26, Tryz.ntmps26
    go_wp2_with fail
    rw [← HB.out, ← HW1.out]
    (with_reducible refine WR.out.mono ?_)
    rintro e v ⟨rfl, h2⟩
    rw [List.nil_append] at h2
    have H2 := Lib.hid h2
    have I2 := Lib.hid (ITh.out v (by rw [← HB.out]; exact EB.out v _ h2))
    clear h2
    go_wp2_with fail
    (with_reducible refine I2.out.mono ?_)
    rintro e v2 ⟨rfl, b2⟩
    have B2 := Lib.hid b2
    have P4 := Lib.hid (put4 (H2.out.bd.below b2) ⟨#[32]⟩ ⟨#[119, 105, 116, 104, 105, 110]⟩ ⟨#[32]⟩ ⟨(Lib.itoa within).toArray⟩ (by
      rw [show (⟨(Lib.itoa within).toArray⟩ : ByteArray).size = (Lib.itoa within).length by show (Lib.itoa within).toArray.size = _; simp]
      show tx.length + (1 + (6 + (1 + _))) ≤ _
      omega))
    clear b2
    go_wp2_with fail
    (with_reducible refine P4.out.mono ?_)
    rintro e v3 ⟨rfl, h3⟩
    have H3 := Lib.hid (H2.out.trans (Wrt.pre B2.out H2.out.bd.lt h3))
    have ST := Lib.hid (Tryz.Builder_String_any b b _ v3 h3.bd (Nat.le_of_lt h3.bd.lt))
    clear h3
    go_wp2_with fail
    (with_reducible refine ST.out.mono ?_)
    rintro e v4 ⟨rfl, b4⟩
    have F4 := Lib.hid ((EB.out v3 _ H3.out).trans b4)
    clear b4
    go_wp2_with fail
    go_ret
    exact ⟨rfl, F4.out⟩
end Go.Proofs.YtkajadkmdcalmaaGreatDoor
