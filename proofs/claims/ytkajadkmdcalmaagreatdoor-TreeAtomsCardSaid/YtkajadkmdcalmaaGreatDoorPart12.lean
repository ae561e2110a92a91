/-
  WHAT THE ROWS REST ON, part 12: Twa.
-/
import Derived.Deep.CutRange
import Derived.Deep.CutBlock
import Derived.Deep.DeepCutAuto
import Derived.Test.YtkajadkmdcalmaaGreatDoorPart11
/-
  THE TEXT OF AN ATOM: writeAtom.
-/
namespace Go.Proofs.YtkajadkmdcalmaaGreatDoor
open Go.RowKit
def aheadT (j : Nat) : List UInt8 := if j = 0 then [91] else [44, 32]
theorem condsT_snoc : ∀ (cs : List Cnd) (a : List UInt8) (c : Cnd), condsT a (cs ++ [c]) = condsT a cs ++ (if cs.length = 0 then a else [44, 32]) ++ condT c
  | [], a, c => by simp [condsT]
  | d :: cs, a, c => by
    show a ++ condT d ++ condsT [44, 32] (cs ++ [c]) = _
    rw [condsT_snoc cs [44, 32] c]
    show _ = a ++ condT d ++ condsT [44, 32] cs ++ _ ++ _
    cases cs <;> simp
theorem condsT_at {cs : List Cnd} {j : Nat} (hj : j < cs.length) : condsT [91] (cs.take (j + 1)) = condsT [91] (cs.take j) ++ aheadT j ++ condT cs[j] := by
  rw [List.take_succ_eq_append_getElem hj, condsT_snoc]
  have : (cs.take j).length = j := by simp; omega
  rw [this]; rfl
theorem condsT_le : ∀ (a b : List Cnd) (x : List UInt8), (condsT x a).length ≤ (condsT x (a ++ b)).length
  | [], b, x => by simp [condsT]
  | c :: a, b, x => by
    show (x ++ condT c ++ condsT [44, 32] a).length ≤ (x ++ condT c ++ condsT [44, 32] (a ++ b)).length
    have := condsT_le a b [44, 32]
    simp only [List.length_append]; omega
theorem strs1 (a : ByteArray) : ([a].flatMap fun (s : ByteArray) => s.data.toList) = a.data.toList := by simp
theorem Bd.below {w w' : World} {b : Nat} {l : List UInt8} (h : Bd w b l) (hb : Below w.heap.size w w') : Bd w' b l := by
  have f : ∀ p, Lib.BuilderAt 99 5 b b p (Lib.byteCells l) w → Lib.BuilderAt 99 5 b b p (Lib.byteCells l) w' := fun p h => by
    have hl := h.lt
    obtain ⟨h1, v, h2, h3, h4⟩ := h
    exact ⟨h1, v, (hb.block b hl).trans h2, World.ownsRow.kept (row := none) h3 ⟨hb.os, hb.tape, hb.output, hb.size, fun k hk _ => hb.block k hk⟩ (by cases v.ownBlock <;> simp), h4⟩
  rcases h with h | h
  · exact .inl (f _ h)
  · exact .inr (f _ h)
theorem Wrt.pre {u w w' : World} {b : Nat} {l : List UInt8} (hb : Below u.heap.size u w) (hu : b < u.heap.size) (h : Wrt w b l w') : Wrt u b l w' :=
  ⟨h.bd, (hb.mono (Nat.le_of_lt hu)).trans h.bel, Kp.trans ⟨hb.size, fun k hk _ _ => hb.block k hk⟩ h.kp⟩
/-- put of texts that the statement lays -/
theorem puts {w : World} {b : Nat} {l : List UInt8} (h : Bd w b l) (ss : List ByteArray) (hn : ss.length ≤ 100) (hlen : l.length + (ss.flatMap (·.data.toList)).length ≤ 140737488355328) :
    Calls Tryz.prog 41 #[ptr b, .slice (some ⟨w.heap.size, 0, none⟩) ss.length ss.length] (w.alloc (.cells (ss.map Value.string).toArray 9)) fun e w' => e = .returned (.tuple #[]) ∧ Wrt w b (l ++ ss.flatMap (·.data.toList)) w' := by
  have ba : Below w.heap.size w (w.alloc (.cells (ss.map Value.string).toArray 9)) := (Below.refl _ _).alloc (Nat.le_refl _) _
  refine (put_any (h.below ba) ss ss.length (heap_alloc_new w _) hn hlen).mono fun e w' hh => ⟨hh.1, Wrt.pre ba h.lt hh.2⟩
theorem put1 {w : World} {b : Nat} {l : List UInt8} (h : Bd w b l) (s : ByteArray) (hlen : l.length + s.size ≤ 140737488355328) :
    Calls Tryz.prog 41 #[.pointer (some ⟨b, 0, none⟩), .slice (some ⟨w.heap.size, 0, none⟩) 1 1] (w.alloc (.cells #[.string s] 9)) fun e w' => e = .returned (.tuple #[]) ∧ Wrt w b (l ++ s.data.toList) w' := by
  have h2 : s.data.toList.length = s.size := by rw [Array.length_toList]; rfl
  have := puts h [s] (by simp) (by simp only [List.flatMap_cons, List.flatMap_nil, List.append_nil, h2]; exact hlen)
  simp only [List.flatMap_cons, List.flatMap_nil, List.append_nil] at this
  exact this
theorem put4 {w : World} {b : Nat} {l : List UInt8} (h : Bd w b l) (s1 s2 s3 s4 : ByteArray) (hlen : l.length + (s1.size + (s2.size + (s3.size + s4.size))) ≤ 140737488355328) :
    Calls Tryz.prog 41 #[.pointer (some ⟨b, 0, none⟩), .slice (some ⟨w.heap.size, 0, none⟩) 4 4] (w.alloc (.cells #[.string s1, .string s2, .string s3, .string s4] 9)) fun e w' => e = .returned (.tuple #[]) ∧ Wrt w b (l ++ (s1.data.toList ++ (s2.data.toList ++ (s3.data.toList ++ s4.data.toList)))) w' := by
  have h2 : ∀ s : ByteArray, s.data.toList.length = s.size := fun s => by rw [Array.length_toList]; rfl
  have := puts h [s1, s2, s3, s4] (by simp) (by simp only [List.flatMap_cons, List.flatMap_nil, List.append_nil, List.length_append, h2]; exact hlen)
  simp only [List.flatMap_cons, List.flatMap_nil, List.append_nil] at this
  exact this
theorem mixedZ : Tryz.prog.follows .mixedOrders = true := by kernel_rfl
set_option maxHeartbeats 8000000 in
set_option maxRecDepth 100000 in
theorem writeAtom_any {w0 w : World} {Bs : List Nat} {n : Nd} {g b : Nat} {l : List UInt8} (hb : Bd w b l) (hp : PartOk w0 Bs n g) (h0 : b = w0.heap.size) (hw : Below b w0 w) (hm : n.conds.length ≤ 100) (hop : ∀ c ∈ n.conds, 1 ≤ c.op ∧ c.op ≤ 6)
    (VAL : ∀ c ∈ n.conds, ∀ w', Below b w w' → Calls Tryz.prog 90 #[c.v.val] w' fun e w'' => e = .returned (.string ⟨(valT c.v).toArray⟩) ∧ Below w'.heap.size w' w'')
    (hlen : l.length + (atomT n).length ≤ 140737488355328) :
    Calls Tryz.prog 61 #[ptr g, ptr b] w fun e w' => e = .returned (.tuple #[]) ∧ Wrt w b (l ++ atomT n) w' := by
  have LN : l.length + (kindT n.kind).length + (condsT [91] n.conds).length + (if n.conds.length = 0 then [] else [(93 : UInt8)]).length ≤ 140737488355328 := by unfold atomT at hlen; simp only [List.length_append] at hlen; omega
  obtain ⟨ca, cc, ka, kc, pa, pc, hblk, hcs, -⟩ := hp.ex
  have CS := Lib.hid (fun (w' : World) (h : Below b w w') => show w'.cell? ⟨g, 1, none⟩ = some (.string n.kind) ∧ w'.cell? ⟨g, 2, none⟩ = some (.slice ca n.conds.length cc) ∧ Cnds w' ca n.conds by
    have hh : Below w0.heap.size w0 w' := by rw [← h0]; exact hw.trans h
    have hb := hblk.below hh
    exact ⟨hb.cell 1, hb.cell 2, hcs.below hh⟩)
  have KT : kindT n.kind = (if n.kind.size = 0 then [97, 110, 121] else []) ++ n.kind.data.toList := by
    unfold kindT
    by_cases h : n.kind.size = 0
    · rw [if_pos h, if_pos h]
      have : n.kind.data.toList = [] := List.length_eq_zero_iff.1 (by rw [Array.length_toList]; exact h)
      rw [this]; rfl
    · rw [if_neg h, if_neg h]; rfl
  have AT : atomT n = kindT n.kind ++ condsT [91] n.conds ++ (if n.conds.length = 0 then [] else [93]) := rfl
  have HOP := Lib.hid hop
  have VALh := Lib.hid VAL
  have HLT := Lib.hid hb.lt
  have HBD := Lib.hid hb
  rw [AT]
  have KTh := Lib.hid KT
  clear hblk hcs hp h0 hw hop VAL hb AT KT hlen
  obtain ⟨x1, x2, -⟩ := CS.out w (Below.refl b w)
  generalize n.kind = kd at *
  generalize n.conds = cs at *
  clear n
  obtain ⟨m, hN⟩ : ∃ m, m = cs.length := ⟨_, rfl⟩
  have HN := Lib.hid hN
  have hmI : (m : Int) ≤ 100 := by omega
  rw [← hN] at x2 LN CS ⊢
  clear hN hm
  unfold ptr
  rcases kind_zero kd with ⟨hk, hk2⟩ | ⟨hk, hk2⟩
  · subst hk
    have e3 : (kindT ⟨#[]⟩).length = 3 := rfl
    have hl3 : l.length + 3 ≤ 140737488355328 := by omega
    have P1 := Lib.hid (put1 HBD.out ⟨#[97, 110, 121]⟩ (show l.length + 3 ≤ _ from hl3))
    clear e3
    go_enter Tryz.func61, Tryz.ntmps61
    go_wp2_with fail
    (with_reducible refine P1.out.mono ?_)
    rintro e w1 ⟨rfl, h1⟩
    have H1 := Lib.hid h1
    obtain ⟨y1, y2, -⟩ := CS.out w1 h1.bel
    clear h1
    go_wp2_with fail
    have P2 := Lib.hid (put1 H1.out.bd ⟨#[]⟩ (show (l ++ [97, 110, 121]).length + 0 ≤ _ by rw [List.length_append]; show l.length + 3 + 0 ≤ _; omega))
    (with_reducible refine P2.out.mono ?_)
    rintro e w2 ⟨rfl, h2⟩
    have HK := Lib.hid (show Wrt w b (l ++ kindT ⟨#[]⟩) w2 from (by
      have := H1.out.trans h2
      rw [show (⟨#[]⟩ : ByteArray).data.toList = [] from rfl, List.append_nil] at this
      exact this))
    obtain ⟨q1, q2, -⟩ := CS.out w2 HK.out.bel
    clear h2 P1 P2 H1 y1 y2 x1 x2
    go_wp2_with fail
    go_loopw [4, 30] (fun a i wr => ∃ j : Nat, i = .int .i64 j ∧ j ≤ m ∧ a = .string ⟨(aheadT j).toArray⟩ ∧ Hid (Wrt w b (l ++ kindT (⟨#[]⟩ : ByteArray) ++ condsT [91] (cs.take j)) wr)) (fun _ i wr => m - (intOf i).toNat)
    case atStart => exact ⟨0, rfl, Nat.zero_le _, rfl, Lib.hid (by rw [List.take_zero]; show Wrt w b (l ++ kindT (⟨#[]⟩ : ByteArray) ++ []) _; rw [List.append_nil]; exact HK.out)⟩
    case round =>
      obtain ⟨j, rfl, hj, rfl, hI⟩ := hrel
      clear HK
      by_cases hjm : j < m
      · have jI : (j : Int) < (m : Int) := by omega
        have hjL : j < cs.length := by rw [← HN.out]; exact hjm
        obtain ⟨-, -, hcs⟩ := CS.out wr hI.out.bel
        obtain ⟨cg, co0, rfl, hcg, z0, z1, z2, z3, z4, z5⟩ := hcs j hjL
        have hco := HOP.out _ (List.getElem_mem hjL)
        have SG := Lib.hid (sign_any cs[j].op hco.1 hco.2)
        have VA := Lib.hid (VALh.out _ (List.getElem_mem hjL))
        have CA := Lib.hid (condsT_at hjL)
        have CL := Lib.hid (show (condsT [91] (cs.take (j + 1))).length ≤ (condsT [91] cs).length by
          have := condsT_le (cs.take (j + 1)) (cs.drop (j + 1)) [91]
          rw [List.take_append_drop] at this
          exact this)
        have HL4 := Lib.hid (show (l ++ kindT (⟨#[]⟩ : ByteArray) ++ condsT [91] (cs.take j)).length + ((⟨(aheadT j).toArray⟩ : ByteArray).size + (cs[j].nm.size + ((⟨(signT cs[j].op).toArray⟩ : ByteArray).size + (⟨(valT cs[j].v).toArray⟩ : ByteArray).size))) ≤ 140737488355328 by
          have h1 : ∀ L : List UInt8, (⟨L.toArray⟩ : ByteArray).size = L.length := fun L => by show L.toArray.size = _; simp
          have h2 : cs[j].nm.size = cs[j].nm.data.toList.length := by rw [Array.length_toList]; rfl
          have h3 := CL.out
          rw [CA.out] at h3
          unfold condT at h3
          have a1 := h1 (aheadT j)
          have a2 := h1 (signT cs[j].op)
          have a3 := h1 (valT cs[j].v)
          simp only [List.length_append] at h3 ⊢
          omega)
        have CT := Lib.hid (show condT cs[j] = cs[j].nm.data.toList ++ signT cs[j].op ++ valT cs[j].v from rfl)
        unfold Val.val at VA
        clear hcs hco
        generalize hcc : cs[j] = cc at *
        clear hcc
        obtain ⟨X1, hX1⟩ : ∃ X1, X1 = wr.alloc (.cells #[.string cc.nm, .int .i64 cc.op, .int .i64 cc.v.k, .int .i64 cc.v.n, .float .f64 cc.v.f, .string cc.v.s] 74) := ⟨_, rfl⟩
        have KX : Blk X1 wr.heap.size 74 #[.string cc.nm, .int .i64 cc.op, .int .i64 cc.v.k, .int .i64 cc.v.n, .float .f64 cc.v.f, .string cc.v.s] := by rw [hX1]; exact heap_alloc_new wr _
        have BX : Below wr.heap.size wr X1 := by rw [hX1]; exact (Below.refl _ _).alloc (Nat.le_refl _) _
        have KXh := Lib.hid KX
        have BXh := Lib.hid BX
        have BDX := Lib.hid (hI.out.bd.below BX)
        have hltr : b < wr.heap.size := hI.out.bd.lt
        have HX1 := Lib.hid hX1
        clear hX1 KX BX
        go_upto_region 7 with fail
        go_cut [] from 34 to 45 (fun wx => Hid (Wrt wr b (l ++ kindT (⟨#[]⟩ : ByteArray) ++ condsT [91] (cs.take j) ++ (aheadT j ++ condT cc)) wx))
        case first =>
          rw [← HX1.out]
          have SK : Hid (∀ w', Below X1.heap.size X1 w' → w'.cell? ⟨wr.heap.size, 0, none⟩ = some (.string cc.nm) ∧ w'.cell? ⟨wr.heap.size, 1, none⟩ = some (.int .i64 cc.op) ∧ w'.cell? ⟨wr.heap.size, 2, none⟩ = some (.int .i64 cc.v.k) ∧ w'.cell? ⟨wr.heap.size, 3, none⟩ = some (.int .i64 cc.v.n) ∧ w'.cell? ⟨wr.heap.size, 4, none⟩ = some (.float .f64 cc.v.f) ∧ w'.cell? ⟨wr.heap.size, 5, none⟩ = some (.string cc.v.s)) := Lib.hid fun w' hb => by
            have K := KXh.out.below hb
            exact ⟨K.cell 0, K.cell 1, K.cell 2, K.cell 3, K.cell 4, K.cell 5⟩
          have B1 := Lib.hid ((Below.refl X1.heap.size X1).drew)
          have SX := SK.out X1.drew B1.out
          have BW := Lib.hid (show Below b w X1.drew from (hI.out.bel.trans (BXh.out.mono (Nat.le_of_lt hltr))).drew)
          clear z0 z1 z2 z3 z4 z5
          refine region_Z (fun (w' : World) => w'.cell? ⟨wr.heap.size, 0, none⟩ = some (.string cc.nm) ∧ w'.cell? ⟨wr.heap.size, 1, none⟩ = some (.int .i64 cc.op) ∧ w'.cell? ⟨wr.heap.size, 2, none⟩ = some (.int .i64 cc.v.k) ∧ w'.cell? ⟨wr.heap.size, 3, none⟩ = some (.int .i64 cc.v.n) ∧ w'.cell? ⟨wr.heap.size, 4, none⟩ = some (.float .f64 cc.v.f) ∧ w'.cell? ⟨wr.heap.size, 5, none⟩ = some (.string cc.v.s)) 11 mixedZ SX (fun _ => ?_)
          refine anyZ_take2 0 [] (v := ?_) rfl (by kernel_rfl) (by kernel_rfl) rfl (by kernel_rfl) (by kernel_rfl) (by kernel_rfl) (fun _ _ _ h => h) (Or.inl ⟨by rfl, ?_⟩) (by assumption) ?_
          rotate_left
          · intro w hSw
            obtain ⟨q0, q1, q2, q3, q4, q5⟩ := hSw
            go_simp
            try (with_reducible rfl)
          (try simp only [Act.put]); (try simp only [List.setIfInBounds_toArray]); (try simp only [List.set_cons_zero, List.set_cons_succ])
          refine anyZ_take2 1 [10] (v := ?_) rfl (by kernel_rfl) (by kernel_rfl) rfl (by kernel_rfl) (by kernel_rfl) (by kernel_rfl) (fun _ _ _ h => h) (Or.inl ⟨by rfl, ?_⟩) (by assumption) ?_
          rotate_left
          · intro w hSw
            obtain ⟨q0, q1, q2, q3, q4, q5⟩ := hSw
            go_simp
            try (with_reducible rfl)
          (try simp only [Act.put]); (try simp only [List.setIfInBounds_toArray]); (try simp only [List.set_cons_zero, List.set_cons_succ])
          refine anyZ_take2 2 [10, 3] (v := ?_) rfl (by kernel_rfl) (by kernel_rfl) rfl (by kernel_rfl) (by kernel_rfl) (by kernel_rfl) (fun _ _ _ h => h) (Or.inl ⟨by rfl, ?_⟩) (by assumption) ?_
          rotate_left
          · intro w hSw
            obtain ⟨q0, q1, q2, q3, q4, q5⟩ := hSw
            go_simp
            try (with_reducible rfl)
          (try simp only [Act.put]); (try simp only [List.setIfInBounds_toArray]); (try simp only [List.set_cons_zero, List.set_cons_succ])
          refine anyZ_take2 3 [10] (v := ?_) rfl (by kernel_rfl) (by kernel_rfl) rfl (by kernel_rfl) (by kernel_rfl) (by kernel_rfl) (fun _ _ _ h => h) (Or.inl ⟨by rfl, ?_⟩) (by assumption) ?_
          rotate_left
          · intro w hSw
            obtain ⟨q0, q1, q2, q3, q4, q5⟩ := hSw
            go_simp
            try (with_reducible rfl)
          (try simp only [Act.put]); (try simp only [List.setIfInBounds_toArray]); (try simp only [List.set_cons_zero, List.set_cons_succ])
          refine anyZ_take2 4 [10, 6, 5] (v := ?_) rfl (by kernel_rfl) (by kernel_rfl) rfl (by kernel_rfl) (by kernel_rfl) (by kernel_rfl) (fun _ _ _ h => h) (Or.inl ⟨by rfl, ?_⟩) (by assumption) ?_
          rotate_left
          · intro w hSw
            obtain ⟨q0, q1, q2, q3, q4, q5⟩ := hSw
            go_simp
            try (with_reducible rfl)
          (try simp only [Act.put]); (try simp only [List.setIfInBounds_toArray]); (try simp only [List.set_cons_zero, List.set_cons_succ])
          refine anyZ_take2 5 [10, 6] (v := ?_) rfl (by kernel_rfl) (by kernel_rfl) rfl (by kernel_rfl) (by kernel_rfl) (by kernel_rfl) (fun _ _ _ h => h) (Or.inl ⟨by rfl, ?_⟩) (by assumption) ?_
          rotate_left
          · intro w hSw
            obtain ⟨q0, q1, q2, q3, q4, q5⟩ := hSw
            go_simp
            try (with_reducible rfl)
          (try simp only [Act.put]); (try simp only [List.setIfInBounds_toArray]); (try simp only [List.set_cons_zero, List.set_cons_succ])
          refine anyZ_take2 7 [10, 9, 8] (v := ?_) rfl (by kernel_rfl) (by kernel_rfl) rfl (by kernel_rfl) (by kernel_rfl) (by kernel_rfl) (fun _ _ _ h => h) (Or.inl ⟨by rfl, ?_⟩) (by assumption) ?_
          rotate_left
          · intro w hSw
            obtain ⟨q0, q1, q2, q3, q4, q5⟩ := hSw
            go_simp
            try (with_reducible rfl)
          (try simp only [Act.put]); (try simp only [List.setIfInBounds_toArray]); (try simp only [List.set_cons_zero, List.set_cons_succ])
          refine anyZ_take2 8 [10, 9] (v := ?_) rfl (by kernel_rfl) (by kernel_rfl) rfl (by kernel_rfl) (by kernel_rfl) (by kernel_rfl) (fun _ _ _ h => h) (Or.inl ⟨by rfl, ?_⟩) (by assumption) ?_
          rotate_left
          · intro w hSw
            obtain ⟨q0, q1, q2, q3, q4, q5⟩ := hSw
            go_simp
            try (with_reducible rfl)
          (try simp only [Act.put]); (try simp only [List.setIfInBounds_toArray]); (try simp only [List.set_cons_zero, List.set_cons_succ])
          refine anyZ_one 6 rfl (by kernel_rfl) (fun K hK => ?_)
          refine wpOp_step rfl (fun K' hK' => ?_)
          go_simp
          go_at_call 89
          refine (SG.out _).mono ?_
          rintro r9 v2 ⟨rfl, rfl⟩
          refine hK' _ _ (hK _ _ ⟨fun _ => SK.out _ B1.out, ?_⟩)
          clear hK hK' K K'
          refine anyZ_one 9 rfl (by kernel_rfl) (fun K hK => ?_)
          refine wpOp_step rfl (fun K' hK' => ?_)
          go_simp
          go_at_call 90
          refine (VA.out _ BW.out).mono ?_
          rintro r9 v3 ⟨rfl, b3⟩
          have B3 := Lib.hid (show Below X1.heap.size X1 v3 from B1.out.trans b3)
          have S3 := SK.out v3 B3.out
          clear b3
          refine hK' _ _ (hK _ _ ⟨fun _ => S3, ?_⟩)
          clear hK hK' K K' SX S3
          refine anyZ_one 10 rfl (by kernel_rfl) (fun K hK => ?_)
          refine wpOp_step rfl (fun K' hK' => ?_)
          go_simp
          refine hK' _ _ (hK _ _ ⟨fun _ => SK.out _ (B3.out.alloc B3.out.size _), ?_⟩)
          clear hK hK' K K'
          refine anyZ_one 11 rfl (by kernel_rfl) (fun K hK => ?_)
          refine wpOp_step rfl (fun K' hK' => ?_)
          go_simp
          go_at_call 41
          have P4 := put4 (BDX.out.below B3.out) ⟨(aheadT j).toArray⟩ cc.nm ⟨(signT cc.op).toArray⟩ ⟨(valT cc.v).toArray⟩ HL4.out
          refine P4.mono ?_
          rintro r9 v5 ⟨rfl, h5⟩
          have W5 := Lib.hid (show Wrt wr b (l ++ kindT (⟨#[]⟩ : ByteArray) ++ condsT [91] (cs.take j) ++ (aheadT j ++ condT cc)) v5 from by
            have h6 := Wrt.pre (BXh.out.trans (B3.out.mono BXh.out.size)) hltr h5
            rw [CT.out, List.append_assoc cc.nm.data.toList]
            exact h6)
          clear h5 P4
          refine hK' _ _ (hK _ _ ⟨fun h => absurd rfl h, ?_⟩)
          clear hK hK' K K'
          refine anyZ_done (by kernel_rfl) ?_ _
          go_wp2_with fail
          go_meet
          exact W5
        case rest =>
          have W9 := Lib.hid (show Wrt w b (l ++ kindT (⟨#[]⟩ : ByteArray) ++ condsT [91] (cs.take (j + 1))) wc from by
            rw [CA.out, List.append_assoc (condsT [91] (cs.take j)), ← List.append_assoc (l ++ kindT (⟨#[]⟩ : ByteArray))]
            exact hI.out.trans hcut.out)
          clear hcut BDX KXh BXh HX1 VA SG
          go_wp2_with fail
          go_roundw
          case rel => exact ⟨j + 1, by go_num, by omega, by simp [aheadT], W9⟩
          case measure => simp [intOf]; omega
      · obtain rfl : j = m := by omega
        have jI : ¬ (j : Int) < (j : Int) := by omega
        have HF := Lib.hid (show Wrt w b (l ++ kindT (⟨#[]⟩ : ByteArray) ++ condsT [91] cs) wr by have := hI.out; rw [List.take_of_length_le (by rw [HN.out]; exact Nat.le_refl _)] at this; exact this)
        obtain ⟨u1, u2, -⟩ := CS.out wr hI.out.bel
        clear hI
        by_cases hj0 : j = 0
        · subst hj0
          have FIN := Lib.hid (show Wrt w b (l ++ (kindT (⟨#[]⟩ : ByteArray) ++ condsT [91] cs)) wr by
            rw [← List.append_assoc]; exact HF.out)
          clear HF
          go_wp2_with fail
          go_end0
          exact ⟨rfl, FIN.out⟩
        · have j0 : (0 : Int) < (j : Int) := by omega
          have j0N : 0 < j := by omega
          have j0B : decide (0 < j) = true := decide_eq_true j0N
          have P9 := Lib.hid (put1 HF.out.bd ⟨#[93]⟩ (by
            have h1 : (⟨#[93]⟩ : ByteArray).size = 1 := rfl
            rw [h1]; rw [if_neg hj0] at LN; simp only [List.length_append, List.length_singleton] at LN ⊢; omega))
          have FIN := Lib.hid (fun (w9 : World) (h9 : Wrt wr b (l ++ kindT (⟨#[]⟩ : ByteArray) ++ condsT [91] cs ++ (⟨#[93]⟩ : ByteArray).data.toList) w9) => show Wrt w b (l ++ (kindT (⟨#[]⟩ : ByteArray) ++ (condsT [91] cs ++ [93]))) w9 by
            have := HF.out.trans h9
            rw [← List.append_assoc, ← List.append_assoc]
            exact this)
          clear HF LN
          go_wp2_with fail
          (with_reducible refine P9.out.mono ?_)
          rintro e w9 ⟨rfl, h9⟩
          have F9 := Lib.hid (FIN.out w9 h9)
          clear h9 FIN P9
          go_wp2_with fail
          go_end0
          exact ⟨rfl, F9.out⟩
  · have KE := Lib.hid (show kindT kd = kd.data.toList by rw [KTh.out, if_neg (by simpa using hk2)]; rfl)
    have hsz : kd.size = (kindT kd).length := by rw [KE.out, Array.length_toList]; rfl
    have P2 := Lib.hid (put1 HBD.out kd (by rw [hsz]; omega))
    clear hk2
    go_enter Tryz.func61, Tryz.ntmps61
    go_wp2_with fail
    (with_reducible refine P2.out.mono ?_)
    rintro e w2 ⟨rfl, h2⟩
    have HK := Lib.hid (show Wrt w b (l ++ kindT kd) w2 by rw [KE.out]; exact h2)
    obtain ⟨q1, q2, -⟩ := CS.out w2 HK.out.bel
    clear h2 P2 x1 x2 hsz
    go_wp2_with fail
    go_loopw [4, 30] (fun a i wr => ∃ j : Nat, i = .int .i64 j ∧ j ≤ m ∧ a = .string ⟨(aheadT j).toArray⟩ ∧ Hid (Wrt w b (l ++ kindT kd ++ condsT [91] (cs.take j)) wr)) (fun _ i wr => m - (intOf i).toNat)
    case atStart => exact ⟨0, rfl, Nat.zero_le _, rfl, Lib.hid (by rw [List.take_zero]; show Wrt w b (l ++ kindT kd ++ []) _; rw [List.append_nil]; exact HK.out)⟩
    case round =>
      obtain ⟨j, rfl, hj, rfl, hI⟩ := hrel
      clear HK
      by_cases hjm : j < m
      · have jI : (j : Int) < (m : Int) := by omega
        have hjL : j < cs.length := by rw [← HN.out]; exact hjm
        obtain ⟨-, -, hcs⟩ := CS.out wr hI.out.bel
        obtain ⟨cg, co0, rfl, hcg, z0, z1, z2, z3, z4, z5⟩ := hcs j hjL
        have hco := HOP.out _ (List.getElem_mem hjL)
        have SG := Lib.hid (sign_any cs[j].op hco.1 hco.2)
        have VA := Lib.hid (VALh.out _ (List.getElem_mem hjL))
        have CA := Lib.hid (condsT_at hjL)
        have CL := Lib.hid (show (condsT [91] (cs.take (j + 1))).length ≤ (condsT [91] cs).length by
          have := condsT_le (cs.take (j + 1)) (cs.drop (j + 1)) [91]
          rw [List.take_append_drop] at this
          exact this)
        have HL4 := Lib.hid (show (l ++ kindT kd ++ condsT [91] (cs.take j)).length + ((⟨(aheadT j).toArray⟩ : ByteArray).size + (cs[j].nm.size + ((⟨(signT cs[j].op).toArray⟩ : ByteArray).size + (⟨(valT cs[j].v).toArray⟩ : ByteArray).size))) ≤ 140737488355328 by
          have h1 : ∀ L : List UInt8, (⟨L.toArray⟩ : ByteArray).size = L.length := fun L => by show L.toArray.size = _; simp
          have h2 : cs[j].nm.size = cs[j].nm.data.toList.length := by rw [Array.length_toList]; rfl
          have h3 := CL.out
          rw [CA.out] at h3
          unfold condT at h3
          have a1 := h1 (aheadT j)
          have a2 := h1 (signT cs[j].op)
          have a3 := h1 (valT cs[j].v)
          simp only [List.length_append] at h3 ⊢
          omega)
        have CT := Lib.hid (show condT cs[j] = cs[j].nm.data.toList ++ signT cs[j].op ++ valT cs[j].v from rfl)
        unfold Val.val at VA
        clear hcs hco
        generalize hcc : cs[j] = cc at *
        clear hcc
        obtain ⟨X1, hX1⟩ : ∃ X1, X1 = wr.alloc (.cells #[.string cc.nm, .int .i64 cc.op, .int .i64 cc.v.k, .int .i64 cc.v.n, .float .f64 cc.v.f, .string cc.v.s] 74) := ⟨_, rfl⟩
        have KX : Blk X1 wr.heap.size 74 #[.string cc.nm, .int .i64 cc.op, .int .i64 cc.v.k, .int .i64 cc.v.n, .float .f64 cc.v.f, .string cc.v.s] := by rw [hX1]; exact heap_alloc_new wr _
        have BX : Below wr.heap.size wr X1 := by rw [hX1]; exact (Below.refl _ _).alloc (Nat.le_refl _) _
        have KXh := Lib.hid KX
        have BXh := Lib.hid BX
        have BDX := Lib.hid (hI.out.bd.below BX)
        have hltr : b < wr.heap.size := hI.out.bd.lt
        have HX1 := Lib.hid hX1
        clear hX1 KX BX
        go_upto_region 7 with fail
        go_cut [] from 34 to 45 (fun wx => Hid (Wrt wr b (l ++ kindT kd ++ condsT [91] (cs.take j) ++ (aheadT j ++ condT cc)) wx))
        case first =>
          rw [← HX1.out]
          have SK : Hid (∀ w', Below X1.heap.size X1 w' → w'.cell? ⟨wr.heap.size, 0, none⟩ = some (.string cc.nm) ∧ w'.cell? ⟨wr.heap.size, 1, none⟩ = some (.int .i64 cc.op) ∧ w'.cell? ⟨wr.heap.size, 2, none⟩ = some (.int .i64 cc.v.k) ∧ w'.cell? ⟨wr.heap.size, 3, none⟩ = some (.int .i64 cc.v.n) ∧ w'.cell? ⟨wr.heap.size, 4, none⟩ = some (.float .f64 cc.v.f) ∧ w'.cell? ⟨wr.heap.size, 5, none⟩ = some (.string cc.v.s)) := Lib.hid fun w' hb => by
            have K := KXh.out.below hb
            exact ⟨K.cell 0, K.cell 1, K.cell 2, K.cell 3, K.cell 4, K.cell 5⟩
          have B1 := Lib.hid ((Below.refl X1.heap.size X1).drew)
          have SX := SK.out X1.drew B1.out
          have BW := Lib.hid (show Below b w X1.drew from (hI.out.bel.trans (BXh.out.mono (Nat.le_of_lt hltr))).drew)
          clear z0 z1 z2 z3 z4 z5
          refine region_Z (fun (w' : World) => w'.cell? ⟨wr.heap.size, 0, none⟩ = some (.string cc.nm) ∧ w'.cell? ⟨wr.heap.size, 1, none⟩ = some (.int .i64 cc.op) ∧ w'.cell? ⟨wr.heap.size, 2, none⟩ = some (.int .i64 cc.v.k) ∧ w'.cell? ⟨wr.heap.size, 3, none⟩ = some (.int .i64 cc.v.n) ∧ w'.cell? ⟨wr.heap.size, 4, none⟩ = some (.float .f64 cc.v.f) ∧ w'.cell? ⟨wr.heap.size, 5, none⟩ = some (.string cc.v.s)) 11 mixedZ SX (fun _ => ?_)
          refine anyZ_take2 0 [] (v := ?_) rfl (by kernel_rfl) (by kernel_rfl) rfl (by kernel_rfl) (by kernel_rfl) (by kernel_rfl) (fun _ _ _ h => h) (Or.inl ⟨by rfl, ?_⟩) (by assumption) ?_
          rotate_left
          · intro w hSw
            obtain ⟨q0, q1, q2, q3, q4, q5⟩ := hSw
            go_simp
            try (with_reducible rfl)
          (try simp only [Act.put]); (try simp only [List.setIfInBounds_toArray]); (try simp only [List.set_cons_zero, List.set_cons_succ])
          refine anyZ_take2 1 [10] (v := ?_) rfl (by kernel_rfl) (by kernel_rfl) rfl (by kernel_rfl) (by kernel_rfl) (by kernel_rfl) (fun _ _ _ h => h) (Or.inl ⟨by rfl, ?_⟩) (by assumption) ?_
          rotate_left
          · intro w hSw
            obtain ⟨q0, q1, q2, q3, q4, q5⟩ := hSw
            go_simp
            try (with_reducible rfl)
          (try simp only [Act.put]); (try simp only [List.setIfInBounds_toArray]); (try simp only [List.set_cons_zero, List.set_cons_succ])
          refine anyZ_take2 2 [10, 3] (v := ?_) rfl (by kernel_rfl) (by kernel_rfl) rfl (by kernel_rfl) (by kernel_rfl) (by kernel_rfl) (fun _ _ _ h => h) (Or.inl ⟨by rfl, ?_⟩) (by assumption) ?_
          rotate_left
          · intro w hSw
            obtain ⟨q0, q1, q2, q3, q4, q5⟩ := hSw
            go_simp
            try (with_reducible rfl)
          (try simp only [Act.put]); (try simp only [List.setIfInBounds_toArray]); (try simp only [List.set_cons_zero, List.set_cons_succ])
          refine anyZ_take2 3 [10] (v := ?_) rfl (by kernel_rfl) (by kernel_rfl) rfl (by kernel_rfl) (by kernel_rfl) (by kernel_rfl) (fun _ _ _ h => h) (Or.inl ⟨by rfl, ?_⟩) (by assumption) ?_
          rotate_left
          · intro w hSw
            obtain ⟨q0, q1, q2, q3, q4, q5⟩ := hSw
            go_simp
            try (with_reducible rfl)
          (try simp only [Act.put]); (try simp only [List.setIfInBounds_toArray]); (try simp only [List.set_cons_zero, List.set_cons_succ])
          refine anyZ_take2 4 [10, 6, 5] (v := ?_) rfl (by kernel_rfl) (by kernel_rfl) rfl (by kernel_rfl) (by kernel_rfl) (by kernel_rfl) (fun _ _ _ h => h) (Or.inl ⟨by rfl, ?_⟩) (by assumption) ?_
          rotate_left
          · intro w hSw
            obtain ⟨q0, q1, q2, q3, q4, q5⟩ := hSw
            go_simp
            try (with_reducible rfl)
          (try simp only [Act.put]); (try simp only [List.setIfInBounds_toArray]); (try simp only [List.set_cons_zero, List.set_cons_succ])
          refine anyZ_take2 5 [10, 6] (v := ?_) rfl (by kernel_rfl) (by kernel_rfl) rfl (by kernel_rfl) (by kernel_rfl) (by kernel_rfl) (fun _ _ _ h => h) (Or.inl ⟨by rfl, ?_⟩) (by assumption) ?_
          rotate_left
          · intro w hSw
            obtain ⟨q0, q1, q2, q3, q4, q5⟩ := hSw
            go_simp
            try (with_reducible rfl)
          (try simp only [Act.put]); (try simp only [List.setIfInBounds_toArray]); (try simp only [List.set_cons_zero, List.set_cons_succ])
          refine anyZ_take2 7 [10, 9, 8] (v := ?_) rfl (by kernel_rfl) (by kernel_rfl) rfl (by kernel_rfl) (by kernel_rfl) (by kernel_rfl) (fun _ _ _ h => h) (Or.inl ⟨by rfl, ?_⟩) (by assumption) ?_
          rotate_left
          · intro w hSw
            obtain ⟨q0, q1, q2, q3, q4, q5⟩ := hSw
            go_simp
            try (with_reducible rfl)
          (try simp only [Act.put]); (try simp only [List.setIfInBounds_toArray]); (try simp only [List.set_cons_zero, List.set_cons_succ])
          refine anyZ_take2 8 [10, 9] (v := ?_) rfl (by kernel_rfl) (by kernel_rfl) rfl (by kernel_rfl) (by kernel_rfl) (by kernel_rfl) (fun _ _ _ h => h) (Or.inl ⟨by rfl, ?_⟩) (by assumption) ?_
          rotate_left
          · intro w hSw
            obtain ⟨q0, q1, q2, q3, q4, q5⟩ := hSw
            go_simp
            try (with_reducible rfl)
          (try simp only [Act.put]); (try simp only [List.setIfInBounds_toArray]); (try simp only [List.set_cons_zero, List.set_cons_succ])
          refine anyZ_one 6 rfl (by kernel_rfl) (fun K hK => ?_)
          refine wpOp_step rfl (fun K' hK' => ?_)
          go_simp
          go_at_call 89
          refine (SG.out _).mono ?_
          rintro r9 v2 ⟨rfl, rfl⟩
          refine hK' _ _ (hK _ _ ⟨fun _ => SK.out _ B1.out, ?_⟩)
          clear hK hK' K K'
          refine anyZ_one 9 rfl (by kernel_rfl) (fun K hK => ?_)
          refine wpOp_step rfl (fun K' hK' => ?_)
          go_simp
          go_at_call 90
          refine (VA.out _ BW.out).mono ?_
          rintro r9 v3 ⟨rfl, b3⟩
          have B3 := Lib.hid (show Below X1.heap.size X1 v3 from B1.out.trans b3)
          have S3 := SK.out v3 B3.out
          clear b3
          refine hK' _ _ (hK _ _ ⟨fun _ => S3, ?_⟩)
          clear hK hK' K K' SX S3
          refine anyZ_one 10 rfl (by kernel_rfl) (fun K hK => ?_)
          refine wpOp_step rfl (fun K' hK' => ?_)
          go_simp
          refine hK' _ _ (hK _ _ ⟨fun _ => SK.out _ (B3.out.alloc B3.out.size _), ?_⟩)
          clear hK hK' K K'
          refine anyZ_one 11 rfl (by kernel_rfl) (fun K hK => ?_)
          refine wpOp_step rfl (fun K' hK' => ?_)
          go_simp
          go_at_call 41
          have P4 := put4 (BDX.out.below B3.out) ⟨(aheadT j).toArray⟩ cc.nm ⟨(signT cc.op).toArray⟩ ⟨(valT cc.v).toArray⟩ HL4.out
          refine P4.mono ?_
          rintro r9 v5 ⟨rfl, h5⟩
          have W5 := Lib.hid (show Wrt wr b (l ++ kindT kd ++ condsT [91] (cs.take j) ++ (aheadT j ++ condT cc)) v5 from by
            have h6 := Wrt.pre (BXh.out.trans (B3.out.mono BXh.out.size)) hltr h5
            rw [CT.out, List.append_assoc cc.nm.data.toList]
            exact h6)
          clear h5 P4
          refine hK' _ _ (hK _ _ ⟨fun h => absurd rfl h, ?_⟩)
          clear hK hK' K K'
          refine anyZ_done (by kernel_rfl) ?_ _
          go_wp2_with fail
          go_meet
          exact W5
        case rest =>
          have W9 := Lib.hid (show Wrt w b (l ++ kindT kd ++ condsT [91] (cs.take (j + 1))) wc from by
            rw [CA.out, List.append_assoc (condsT [91] (cs.take j)), ← List.append_assoc (l ++ kindT kd)]
            exact hI.out.trans hcut.out)
          clear hcut BDX KXh BXh HX1 VA SG
          go_wp2_with fail
          go_roundw
          case rel => exact ⟨j + 1, by go_num, by omega, by simp [aheadT], W9⟩
          case measure => simp [intOf]; omega
      · obtain rfl : j = m := by omega
        have jI : ¬ (j : Int) < (j : Int) := by omega
        have HF := Lib.hid (show Wrt w b (l ++ kindT kd ++ condsT [91] cs) wr by have := hI.out; rw [List.take_of_length_le (by rw [HN.out]; exact Nat.le_refl _)] at this; exact this)
        obtain ⟨u1, u2, -⟩ := CS.out wr hI.out.bel
        clear hI
        by_cases hj0 : j = 0
        · subst hj0
          have FIN := Lib.hid (show Wrt w b (l ++ (kindT kd ++ condsT [91] cs)) wr by
            rw [← List.append_assoc]; exact HF.out)
          clear HF
          go_wp2_with fail
          go_end0
          exact ⟨rfl, FIN.out⟩
        · have j0 : (0 : Int) < (j : Int) := by omega
          have j0N : 0 < j := by omega
          have j0B : decide (0 < j) = true := decide_eq_true j0N
          have P9 := Lib.hid (put1 HF.out.bd ⟨#[93]⟩ (by
            have h1 : (⟨#[93]⟩ : ByteArray).size = 1 := rfl
            rw [h1]; rw [if_neg hj0] at LN; simp only [List.length_append, List.length_singleton] at LN ⊢; omega))
          have FIN := Lib.hid (fun (w9 : World) (h9 : Wrt wr b (l ++ kindT kd ++ condsT [91] cs ++ (⟨#[93]⟩ : ByteArray).data.toList) w9) => show Wrt w b (l ++ (kindT kd ++ (condsT [91] cs ++ [93]))) w9 by
            have := HF.out.trans h9
            rw [← List.append_assoc, ← List.append_assoc]
            exact this)
          clear HF LN
          go_wp2_with fail
          (with_reducible refine P9.out.mono ?_)
          rintro e w9 ⟨rfl, h9⟩
          have F9 := Lib.hid (FIN.out w9 h9)
          clear h9 FIN P9
          go_wp2_with fail
          go_end0
          exact ⟨rfl, F9.out⟩
end Go.Proofs.YtkajadkmdcalmaaGreatDoor
