/-
  WHAT THE ROWS REST ON, part 13: Twk Twr.
-/
import Derived.Test.YtkajadkmdcalmaaGreatDoorPart12
/-
  THE TEXT OF A PART: write, writeKids, one within the other.
-/
namespace Go.Proofs.YtkajadkmdcalmaaGreatDoor
open Go.RowKit
theorem kidsT_snoc (btw : List UInt8) (op : Int) (xs : List (Int × List UInt8)) (x : Int × List UInt8) : kidsT btw op (xs ++ [x]) = kidsT btw op xs ++ ((if xs.length = 0 then [] else btw) ++ pieceT op x) := by
  cases xs with
  | nil => simp [kidsT]
  | cons y ys =>
    show pieceT op y ++ (ys ++ [x]).flatMap _ = pieceT op y ++ ys.flatMap _ ++ _
    rw [List.flatMap_append]
    simp
theorem kidsT_at {btw : List UInt8} {op : Int} {xs : List (Int × List UInt8)} {j : Nat} (hj : j < xs.length) : kidsT btw op (xs.take (j + 1)) = kidsT btw op (xs.take j) ++ ((if j = 0 then [] else btw) ++ pieceT op xs[j]) := by
  rw [List.take_succ_eq_append_getElem hj, kidsT_snoc]
  have : (xs.take j).length = j := by simp; omega
  rw [this]
theorem kidsT_le (btw : List UInt8) (op : Int) : ∀ (xs ys : List (Int × List UInt8)), (kidsT btw op xs).length ≤ (kidsT btw op (xs ++ ys)).length
  | [], ys => by simp [kidsT]
  | x :: xs, ys => by
    show (pieceT op x ++ xs.flatMap _).length ≤ (pieceT op x ++ (xs ++ ys).flatMap _).length
    rw [List.flatMap_append]
    simp only [List.length_append]; omega
theorem txtP_op {l : List Nd} {i : Nat} (h : i < l.length) : (txtP l i).1 = l[i].op := by
  unfold txtP
  rw [List.getD_eq_getElem?_getD, made_get txtG l h, Option.getD_some]
  rfl
/-- what is asked of a part that is to be written -/
def WKid (w : World) (b : Nat) (Bs : List Nat) (l : List Nd) (k : Nat) : Prop := ∀ (w' : World) (t : List UInt8), Below b w w' → Bd w' b t → t.length + (txtF l k).length ≤ 140737488355328 →
  Calls Tryz.prog 40 #[ptr (Bs.getD k 0), ptr b] w' fun e w'' => e = .returned (.tuple #[]) ∧ Wrt w' b (t ++ txtF l k) w''
set_option maxHeartbeats 8000000 in
set_option maxRecDepth 100000 in
theorem writeKids_any {w0 w : World} {Bs : List Nat} {l : List Nd} {n : Nd} {g b : Nat} {t : List UInt8} (btw : ByteArray) (hb : Bd w b t) (P : Parts w0 l Bs) (hp : PartOk w0 Bs n g) (h0 : b = w0.heap.size) (hw : Below b w0 w)
    (hk : ∀ k ∈ n.kids, 0 ≤ k ∧ k < (Bs.length : Int)) (hn : n.kids.length ≤ 200) (hop : 1 ≤ n.op ∧ n.op ≤ 5) (hops : ∀ i (h : i < Bs.length), 1 ≤ (l[i]'(Nat.lt_of_lt_of_le h P.le)).op ∧ (l[i]'(Nat.lt_of_lt_of_le h P.le)).op ≤ 5)
    (WK : ∀ k ∈ n.kids, WKid w b Bs l k.toNat) (hlen : t.length + (kidsT btw.data.toList n.op (n.kids.map fun k => txtP l k.toNat)).length ≤ 140737488355328) :
    Calls Tryz.prog 62 #[ptr g, ptr b, .string btw] w fun e w' => e = .returned (.tuple #[]) ∧ Wrt w b (t ++ kidsT btw.data.toList n.op (n.kids.map fun k => txtP l k.toNat)) w' := by
  have HBN := Lib.hid (fun (w' : World) (h : Below b w w') => show Calls Tryz.prog 91 #[ptr g] w' fun e w'' => e = .returned (.int .i64 (bindsF n.op)) ∧ w' = w'' from binds_any (hp.below (by rw [← h0]; exact hw.trans h)) hop)
  obtain ⟨ca, cc, ka, kc, pa, pc, hblk, -, hr⟩ := hp.ex
  have CS := Lib.hid (fun (w' : World) (h : Below b w w') => show w'.cell? ⟨g, 6, none⟩ = some (.slice pa n.kids.length pc) by
    have hh : Below w0.heap.size w0 w' := by rw [← h0]; exact hw.trans h
    exact (hblk.below hh).cell 6)
  have KD := Lib.hid (fun (w' : World) (h : Below b w w') (j : Nat) (hj : j < n.kids.length) => show ∃ pg po q, pa = some ⟨pg, po, none⟩ ∧ w'.cell? ⟨pg, po + j, none⟩ = some (ptr q) ∧ q = Bs.getD n.kids[j].toNat 0 ∧ Calls Tryz.prog 91 #[ptr q] w' (fun e w'' => e = .returned (.int .i64 (bindsF (txtP l n.kids[j].toNat).1)) ∧ w' = w'') by
    have hh : Below w0.heap.size w0 w' := by rw [← h0]; exact hw.trans h
    obtain ⟨pg, po, q, m, e1, e2, e3, e4, e5, e6⟩ := kid_at (P.below hh) (hr.below hh) hk hj
    have hl : n.kids[j].toNat < l.length := Nat.lt_of_lt_of_le e4 P.le
    have em : l[n.kids[j].toNat] = m := by rw [List.getElem?_eq_getElem hl] at e3; exact Option.some.inj e3
    refine ⟨pg, po, q, e1, e2, by simp [List.getD_eq_getElem?_getD, e5], ?_⟩
    rw [txtP_op hl, em]
    exact binds_any e6 (by rw [← em]; exact hops _ e4))
  have WKh := Lib.hid WK
  have HL := Lib.hid hlen
  have I0 := Lib.hid (show Wrt w b (t ++ kidsT btw.data.toList n.op ((n.kids.map fun k => txtP l k.toNat).take 0)) w from ⟨by rw [List.take_zero]; show Bd w b (t ++ []); rw [List.append_nil]; exact hb, Below.refl b w, Kp.refl b w⟩)
  have x6 := CS.out w (Below.refl b w)
  clear hblk hr hp h0 hw hk hop hops WK hlen P hb
  generalize n.kids = ks at *
  generalize n.op = op at *
  clear n
  obtain ⟨m, hN⟩ : ∃ m, m = ks.length := ⟨_, rfl⟩
  have HN := Lib.hid hN
  have hmI : (m : Int) ≤ 200 := by omega
  rw [← hN] at x6 CS
  clear hN hn
  unfold ptr at *
  go_enter Tryz.func62, Tryz.ntmps62
  go_wp2_with fail
  go_loopw [13] (fun i wr => ∃ j : Nat, i = .int .i64 j ∧ j ≤ m ∧ Hid (Wrt w b (t ++ kidsT btw.data.toList op ((ks.map fun k => txtP l k.toNat).take j)) wr)) (fun i wr => m - (intOf i).toNat)
  case atStart => exact ⟨0, rfl, Nat.zero_le _, I0⟩
  case round =>
    obtain ⟨j, rfl, hj, hI⟩ := hrel
    clear I0
    by_cases hjm : j < m
    · have jI : (j : Int) < (m : Int) := by omega
      have hjL : j < ks.length := by rw [← HN.out]; exact hjm
      have hjX : j < (ks.map fun k => txtP l k.toNat).length := by rw [List.length_map]; exact hjL
      obtain ⟨pg, po, q, rfl, ck, hq, -⟩ := KD.out wr hI.out.bel j hjL
      have WQ := Lib.hid (WKh.out _ (List.getElem_mem hjL))
      have KA := Lib.hid (kidsT_at (btw := btw.data.toList) (op := op) hjX)
      have KL := Lib.hid (show (kidsT btw.data.toList op ((ks.map fun k => txtP l k.toNat).take (j + 1))).length ≤ (kidsT btw.data.toList op (ks.map fun k => txtP l k.toNat)).length by
        have := kidsT_le btw.data.toList op ((ks.map fun k => txtP l k.toNat).take (j + 1)) ((ks.map fun k => txtP l k.toNat).drop (j + 1))
        rw [List.take_append_drop] at this
        exact this)
      have BK := Lib.hid (fun (w' : World) (h : Below b w w') => show Calls Tryz.prog 91 #[.pointer (some ⟨q, 0, none⟩)] w' (fun e w'' => e = .returned (.int .i64 (bindsF (txtP l ks[j].toNat).1)) ∧ w' = w'') by
        obtain ⟨pg', po', q', e1, _, e3, e4⟩ := KD.out w' h j hjL
        rw [← hq] at e3
        rw [← e3]; exact e4)
      have BQ := HBN
      have WY := Lib.hid (fun (w' : World) (t' : List UInt8) (h1 : Below b w w') (h2 : Bd w' b t') (h3 : t'.length + (txtP l (ks[j]'hjL).toNat).2.length ≤ 140737488355328) => show Calls Tryz.prog 40 #[.pointer (some ⟨q, 0, none⟩), .pointer (some ⟨b, 0, none⟩)] w' (fun e w'' => e = .returned (.tuple #[]) ∧ Wrt w' b (t' ++ (txtP l (ks[j]'hjL).toNat).2) w'') by
        have := WQ.out w' t' h1 h2 h3
        rw [← hq] at this
        exact this)
      have LX := Lib.hid (show (t ++ kidsT btw.data.toList op ((ks.map fun k => txtP l k.toNat).take j)).length + ((if j = 0 then [] else btw.data.toList).length + (pieceT op (txtP l ks[j].toNat)).length) ≤ 140737488355328 by
        have h1 := KL.out
        have h2 := HL.out
        rw [KA.out] at h1
        simp only [List.length_append, List.getElem_map] at h1 h2 ⊢
        omega)
      have KA := (show kidsT btw.data.toList op ((ks.map fun k => txtP l k.toNat).take (j + 1)) = kidsT btw.data.toList op ((ks.map fun k => txtP l k.toNat).take j) ++ ((if j = 0 then [] else btw.data.toList) ++ pieceT op (txtP l ks[j].toNat)) by
        have := KA.out
        rw [List.getElem_map] at this
        exact this)
      clear KL hq
      unfold txtF at *
      generalize kidsT btw.data.toList op ((ks.map fun k => txtP l k.toNat).take j) = T0 at *
      generalize txtP l ks[j].toNat = x at *
      obtain ⟨xo, xt⟩ := x
      simp only at BK WY
      clear WQ
      have PC : pieceT op (xo, xt) = if bindsF op < bindsF xo then xt else [40] ++ xt ++ [41] := rfl
      rw [PC] at LX KA
      have KA := Lib.hid KA
      clear PC
      generalize bindsF op = bo at *
      generalize bindsF xo = bx at *
      have hltr : b < wr.heap.size := hI.out.bd.lt
      have s1 : ∀ s : ByteArray, s.data.toList.length = s.size := fun s => by rw [Array.length_toList]; rfl
      have S1 := Lib.hid s1
      clear s1
      by_cases hj0 : j = 0
      · subst hj0
        rw [Nat.add_zero] at ck
        have j0 : decide ((0 : Int) < 0) = false := rfl
        rw [if_pos rfl, List.nil_append] at KA
        rw [if_pos rfl] at LX
        by_cases hbx : bo < bx
        · rw [if_pos hbx] at KA LX
          have PY := Lib.hid (fun (v : World) (h : Wrt w b (t ++ T0 ++ xt) v) => show Wrt w b (t ++ kidsT btw.data.toList op ((ks.map fun k => txtP l k.toNat).take (0 + 1))) v by rw [KA.out, ← List.append_assoc]; exact h)
          go_wp2_with fail
          (with_reducible refine (BK.out wr hI.out.bel).mono ?_)
          rintro e1 v1 ⟨rfl, rfl⟩
          go_wp2_with fail
          (with_reducible refine (BQ.out wr hI.out.bel).mono ?_)
          rintro e1 v1 ⟨rfl, rfl⟩
          go_wp2_with fail
          (with_reducible refine (WY.out wr _ hI.out.bel hI.out.bd (by have := LX.out; simp only [List.length_append, List.length_nil] at this ⊢; omega)).mono ?_)
          rintro e1 v2 ⟨rfl, h2⟩
          have FIN := Lib.hid (PY.out v2 (hI.out.trans h2))
          clear h2
          go_wp2_with fail
          go_roundw
          case rel => exact ⟨1, rfl, by omega, FIN⟩
          case measure => simp [intOf]; omega
        · have hbx2 : decide (bo < bx) = false := decide_eq_false hbx
          rw [if_neg hbx] at KA LX
          have PN := Lib.hid (fun (v : World) (h : Wrt w b (t ++ T0 ++ (⟨#[40]⟩ : ByteArray).data.toList ++ xt ++ (⟨#[41]⟩ : ByteArray).data.toList) v) => show Wrt w b (t ++ kidsT btw.data.toList op ((ks.map fun k => txtP l k.toNat).take (0 + 1))) v by
            rw [KA.out, ← List.append_assoc, ← List.append_assoc, ← List.append_assoc]; exact h)
          go_wp2_with fail
          (with_reducible refine (BK.out wr hI.out.bel).mono ?_)
          rintro e1 v1 ⟨rfl, rfl⟩
          go_wp2_with fail
          (with_reducible refine (BQ.out wr hI.out.bel).mono ?_)
          rintro e1 v1 ⟨rfl, rfl⟩
          go_wp2_with fail
          (with_reducible refine (put1 hI.out.bd ⟨#[40]⟩ (by have := LX.out; rw [show (⟨#[40]⟩ : ByteArray).size = 1 from rfl]; simp only [List.length_append, List.length_nil, List.length_singleton] at this ⊢; omega)).mono ?_)
          rintro e1 v2 ⟨rfl, h2⟩
          have H2 := Lib.hid (hI.out.trans h2)
          clear h2
          go_wp2_with fail
          (with_reducible refine (WY.out v2 _ H2.out.bel H2.out.bd (by have := LX.out; have h40 : (⟨#[40]⟩ : ByteArray).data.toList.length = 1 := rfl; simp only [List.length_append, List.length_nil, List.length_singleton] at this ⊢; omega)).mono ?_)
          rintro e1 v3 ⟨rfl, h3⟩
          have H3 := Lib.hid (H2.out.trans h3)
          clear h3
          go_wp2_with fail
          (with_reducible refine (put1 H3.out.bd ⟨#[41]⟩ (by have := LX.out; have h40 : (⟨#[40]⟩ : ByteArray).data.toList.length = 1 := rfl; rw [show (⟨#[41]⟩ : ByteArray).size = 1 from rfl]; simp only [List.length_append, List.length_nil, List.length_singleton] at this ⊢; omega)).mono ?_)
          rintro e1 v4 ⟨rfl, h4⟩
          have FIN := Lib.hid (PN.out v4 (H3.out.trans h4))
          clear h4
          go_wp2_with fail
          go_roundw
          case rel => exact ⟨1, rfl, by omega, FIN⟩
          case measure => simp [intOf]; omega
      · have j0 : (0 : Int) < (j : Int) := by omega
        have j0N : 0 < j := by omega
        rw [if_neg hj0] at KA LX
        have P1 := Lib.hid (put1 hI.out.bd btw (by have := LX.out; rw [S1.out] at this; omega))
        by_cases hbx : bo < bx
        · rw [if_pos hbx] at KA LX
          have PY := Lib.hid (fun (v : World) (h : Wrt w b (t ++ T0 ++ btw.data.toList ++ xt) v) => show Wrt w b (t ++ kidsT btw.data.toList op ((ks.map fun k => txtP l k.toNat).take (j + 1))) v by rw [KA.out, ← List.append_assoc, ← List.append_assoc]; exact h)
          go_wp2_with fail
          (with_reducible refine P1.out.mono ?_)
          rintro e1 v0 ⟨rfl, h1⟩
          have H1 := Lib.hid (hI.out.trans h1)
          clear h1
          go_wp2_with fail
          (with_reducible refine (BK.out v0 H1.out.bel).mono ?_)
          rintro e1 v1 ⟨rfl, rfl⟩
          go_wp2_with fail
          (with_reducible refine (BQ.out v0 H1.out.bel).mono ?_)
          rintro e1 v1 ⟨rfl, rfl⟩
          go_wp2_with fail
          (with_reducible refine (WY.out v0 _ H1.out.bel H1.out.bd (by have := LX.out; simp only [List.length_append] at this ⊢; omega)).mono ?_)
          rintro e1 v2 ⟨rfl, h2⟩
          have FIN := Lib.hid (PY.out v2 (H1.out.trans h2))
          clear h2
          go_wp2_with fail
          go_roundw
          case rel => exact ⟨j + 1, by go_num, by omega, FIN⟩
          case measure => simp [intOf]; omega
        · have hbx2 : decide (bo < bx) = false := decide_eq_false hbx
          rw [if_neg hbx] at KA LX
          have PN := Lib.hid (fun (v : World) (h : Wrt w b (t ++ T0 ++ btw.data.toList ++ (⟨#[40]⟩ : ByteArray).data.toList ++ xt ++ (⟨#[41]⟩ : ByteArray).data.toList) v) => show Wrt w b (t ++ kidsT btw.data.toList op ((ks.map fun k => txtP l k.toNat).take (j + 1))) v by
            rw [KA.out, ← List.append_assoc, ← List.append_assoc, ← List.append_assoc, ← List.append_assoc]; exact h)
          go_wp2_with fail
          (with_reducible refine P1.out.mono ?_)
          rintro e1 v0 ⟨rfl, h1⟩
          have H1 := Lib.hid (hI.out.trans h1)
          clear h1
          go_wp2_with fail
          (with_reducible refine (BK.out v0 H1.out.bel).mono ?_)
          rintro e1 v1 ⟨rfl, rfl⟩
          go_wp2_with fail
          (with_reducible refine (BQ.out v0 H1.out.bel).mono ?_)
          rintro e1 v1 ⟨rfl, rfl⟩
          go_wp2_with fail
          (with_reducible refine (put1 H1.out.bd ⟨#[40]⟩ (by have := LX.out; rw [show (⟨#[40]⟩ : ByteArray).size = 1 from rfl]; simp only [List.length_append, List.length_singleton] at this ⊢; omega)).mono ?_)
          rintro e1 v2 ⟨rfl, h2⟩
          have H2 := Lib.hid (H1.out.trans h2)
          clear h2
          go_wp2_with fail
          (with_reducible refine (WY.out v2 _ H2.out.bel H2.out.bd (by have := LX.out; have h40 : (⟨#[40]⟩ : ByteArray).data.toList.length = 1 := rfl; simp only [List.length_append, List.length_singleton] at this ⊢; omega)).mono ?_)
          rintro e1 v3 ⟨rfl, h3⟩
          have H3 := Lib.hid (H2.out.trans h3)
          clear h3
          go_wp2_with fail
          (with_reducible refine (put1 H3.out.bd ⟨#[41]⟩ (by have := LX.out; have h40 : (⟨#[40]⟩ : ByteArray).data.toList.length = 1 := rfl; rw [show (⟨#[41]⟩ : ByteArray).size = 1 from rfl]; simp only [List.length_append, List.length_singleton] at this ⊢; omega)).mono ?_)
          rintro e1 v4 ⟨rfl, h4⟩
          have FIN := Lib.hid (PN.out v4 (H3.out.trans h4))
          clear h4
          go_wp2_with fail
          go_roundw
          case rel => exact ⟨j + 1, by go_num, by omega, FIN⟩
          case measure => simp [intOf]; omega
    · obtain rfl : j = m := by omega
      have jI : ¬ (j : Int) < (j : Int) := by omega
      have FIN := Lib.hid (show Wrt w b (t ++ kidsT btw.data.toList op (ks.map fun k => txtP l k.toNat)) wr by have := hI.out; rw [List.take_of_length_le (by rw [List.length_map, HN.out]; exact Nat.le_refl _)] at this; exact this)
      clear hI
      go_wp2_with fail
      go_end0
      exact ⟨rfl, FIN.out⟩
end Go.Proofs.YtkajadkmdcalmaaGreatDoor
/-
  THE TEXT OF A PART: write.
-/
namespace Go.Proofs.YtkajadkmdcalmaaGreatDoor
open Go.RowKit
/-- what is asked of the nodes that are to be written -/
structure Wra (w0 : World) (b : Nat) (l : List Nd) (n : Nat) : Prop where
  conds : ∀ i (h : i < l.length), i < n → l[i].conds.length ≤ 100 ∧ (∀ c ∈ l[i].conds, 1 ≤ c.op ∧ c.op ≤ 6)
  val : ∀ i (h : i < l.length), i < n → ∀ c ∈ l[i].conds, ∀ w', Below b w0 w' → Calls Tryz.prog 90 #[c.v.val] w' fun e w'' => e = .returned (.string ⟨(valT c.v).toArray⟩) ∧ Below w'.heap.size w' w''
  tim : ∀ i (h : i < l.length), i < n → l[i].op = 4 → ∀ w', Below b w0 w' → Calls Tryz.prog 63 #[.int .i64 l[i].lo, .int .i64 l[i].hi] w' fun e w'' => e = .returned (.string ⟨(timesT l[i].lo l[i].hi).toArray⟩) ∧ Below w'.heap.size w' w''
  kid : ∀ i (h : i < l.length), i < n → l[i].op = 5 → 0 < l[i].kids.length
set_option maxHeartbeats 8000000 in
set_option maxRecDepth 100000 in
theorem write_any {w0 : World} {Bs : List Nat} {l : List Nd} {b : Nat} (P : Parts w0 l Bs) (G : Good l Bs.length) (h0 : b = w0.heap.size) (A : Wra w0 b l Bs.length) : ∀ i (hi : i < Bs.length) (w : World) (t : List UInt8), Below b w0 w → Bd w b t → t.length + (txtF l i).length ≤ 140737488355328 →
    Calls Tryz.prog 40 #[ptr Bs[i], ptr b] w fun e w' => e = .returned (.tuple #[]) ∧ Wrt w b (t ++ txtF l i) w' := by
  intro i
  induction i using Nat.strongRecOn with
  | ind i ih =>
    intro hi w t hw hb hlen
    have hil : i < l.length := Nat.lt_of_lt_of_le hi G.le
    have hk := G.kids i hi
    have hop := G.op i hi
    have hf := G.few i hil
    have hkB : ∀ k ∈ l[i].kids, 0 ≤ k ∧ k < (Bs.length : Int) := fun k hm => by have := hk k hm; omega
    have hp := P.at_ i hi
    have hh : Below w0.heap.size w0 w := by rw [← h0]; exact hw
    obtain ⟨ca, cc, ka, kc, pa, pc, hblk0, -, hr0⟩ := hp.ex
    have hblk := hblk0.below hh
    have hr := hr0.below hh
    have c0 : w.cell? ⟨Bs[i], 0, none⟩ = some (.int .i64 l[i].op) := hblk.cell 0
    have c6 : w.cell? ⟨Bs[i], 6, none⟩ = some (.slice pa l[i].kids.length pc) := hblk.cell 6
    have TE := txtP_eq hil hk
    have hcd := A.conds i hil hi
    have WK : ∀ k ∈ l[i].kids, WKid w b Bs l k.toNat := fun k hm w' t' h1 h2 h3 => by
      have hkk := hk k hm
      have hlt : k.toNat < Bs.length := by omega
      have e2 : Bs.getD k.toNat 0 = Bs[k.toNat] := by simp [List.getD_eq_getElem?_getD, hlt]
      rw [e2]
      exact ih k.toNat (by omega) hlt w' t' (hw.trans h1) h2 h3
    have hops : ∀ i (h : i < Bs.length), 1 ≤ (l[i]'(Nat.lt_of_lt_of_le h P.le)).op ∧ (l[i]'(Nat.lt_of_lt_of_le h P.le)).op ≤ 5 := fun i h => G.op i h
    have HLT := hb.lt
    have NB : ∀ w', Below b w w' → Blk w' Bs[i] 92 #[.int .i64 l[i].op, .string l[i].kind, .slice ca l[i].conds.length cc, .int .i64 l[i].lo, .int .i64 l[i].hi, .slice ka l[i].kids.length kc, .slice pa l[i].kids.length pc] := fun w' h => hblk0.below (by rw [← h0]; exact hw.trans h)
    have o5 : l[i].op = 1 ∨ l[i].op = 2 ∨ l[i].op = 3 ∨ l[i].op = 4 ∨ l[i].op = 5 := by omega
    rcases o5 with o | o | o | o | o
    · have ET : txtF l i = atomT l[i] := by
        rcases TE with TE | TE
        · unfold txtF; rw [TE]; simp only; rw [if_pos o]
        · omega
      rw [ET] at hlen ⊢
      have WA := Lib.hid (writeAtom_any hb hp h0 hw hcd.1 hcd.2 (fun c hc w' hw' => A.val i hil hi c hc w' (hw.trans hw')) hlen)
      rw [o] at c0
      clear WK TE NB hr hr0 ET hblk hblk0 hh c6 ih h0
      generalize Bs[i] = g at *
      unfold ptr at *
      go_enter Tryz.func40, Tryz.ntmps40
      go_wp2_with fail
      (with_reducible refine WA.out.mono ?_)
      rintro e v ⟨rfl, h1⟩
      have H1 := Lib.hid h1
      clear h1
      go_wp2_with fail
      go_end0
      exact ⟨rfl, H1.out⟩
    · have ET : txtF l i = kidsT [32, 59, 32] l[i].op (l[i].kids.map fun k => txtP l k.toNat) := by
        rcases TE with TE | TE
        · unfold txtF; rw [TE]; simp only; rw [if_neg (by omega), if_neg (by omega), if_pos o]
        · omega
      rw [ET] at hlen ⊢
      have WA := Lib.hid (writeKids_any ⟨#[32, 59, 32]⟩ hb P hp h0 hw hkB hf hop hops WK hlen)
      rw [o] at c0
      clear WK TE NB hr hr0 ET hblk hblk0 hh c6 ih h0
      generalize Bs[i] = g at *
      unfold ptr at *
      go_enter Tryz.func40, Tryz.ntmps40
      go_wp2_with fail
      (with_reducible refine WA.out.mono ?_)
      rintro e v ⟨rfl, h1⟩
      have H1 := Lib.hid h1
      clear h1
      go_wp2_with fail
      go_end0
      exact ⟨rfl, H1.out⟩
    · have ET : txtF l i = kidsT [32, 124, 32] l[i].op (l[i].kids.map fun k => txtP l k.toNat) := by
        rcases TE with TE | TE
        · unfold txtF; rw [TE]; simp only; rw [if_neg (by omega), if_neg (by omega), if_neg (by omega), if_pos o]
        · omega
      rw [ET] at hlen ⊢
      have WA := Lib.hid (writeKids_any ⟨#[32, 124, 32]⟩ hb P hp h0 hw hkB hf hop hops WK hlen)
      rw [o] at c0
      clear WK TE NB hr hr0 ET hblk hblk0 hh c6 ih h0
      generalize Bs[i] = g at *
      unfold ptr at *
      go_enter Tryz.func40, Tryz.ntmps40
      go_wp2_with fail
      (with_reducible refine WA.out.mono ?_)
      rintro e v ⟨rfl, h1⟩
      have H1 := Lib.hid h1
      clear h1
      go_wp2_with fail
      go_end0
      exact ⟨rfl, H1.out⟩
    · have ET : txtF l i = kidsT [] l[i].op (l[i].kids.map fun k => txtP l k.toNat) ++ timesT l[i].lo l[i].hi := by
        rcases TE with TE | TE
        · unfold txtF; rw [TE]; simp only; rw [if_neg (by omega), if_neg (by omega), if_neg (by omega), if_neg (by omega), if_pos o]
        · omega
      rw [ET] at hlen ⊢
      rw [List.length_append] at hlen
      have WA := Lib.hid (writeKids_any ⟨#[]⟩ hb P hp h0 hw hkB hf hop hops WK (show t.length + (kidsT [] l[i].op (l[i].kids.map fun k => txtP l k.toNat)).length ≤ _ by omega))
      have TI := Lib.hid (fun (w' : World) (h : Below b w w') => A.tim i hil hi o w' (hw.trans h))
      have NBh := Lib.hid NB
      rw [o] at c0
      clear WK TE NB hr hr0 ET hblk hblk0 hh c6 ih h0 hops hkB hk hcd hf hp
      generalize kidsT [] l[i].op (l[i].kids.map fun k => txtP l k.toNat) = TK at *
      generalize hlo : l[i].lo = lo at *
      generalize hhi : l[i].hi = hi at *
      clear hlo hhi
      generalize Bs[i] = g at *
      unfold ptr at *
      go_enter Tryz.func40, Tryz.ntmps40
      go_wp2_with fail
      (with_reducible refine WA.out.mono ?_)
      rintro e v ⟨rfl, h1⟩
      have H1 := Lib.hid h1
      have K1 := Lib.hid (NBh.out v h1.bel)
      have hlv : b < v.heap.size := h1.bd.lt
      clear h1 c0 WA
      have HL4 := Lib.hid (show (t ++ TK).length + (⟨(timesT lo hi).toArray⟩ : ByteArray).size ≤ 140737488355328 by
        rw [show (⟨(timesT lo hi).toArray⟩ : ByteArray).size = (timesT lo hi).length by show (timesT lo hi).toArray.size = _; simp, List.length_append]; omega)
      go_upto_region 12 with fail
      have SK : Hid (∀ w', Below v.heap.size v w' → w'.cell? ⟨g, 3, none⟩ = some (.int .i64 lo) ∧ w'.cell? ⟨g, 4, none⟩ = some (.int .i64 hi)) := Lib.hid fun w' hb => by
        have K := K1.out.below hb
        exact ⟨K.cell 3, K.cell 4⟩
      have B1 := Lib.hid ((Below.refl v.heap.size v).drew)
      have SX := SK.out v.drew B1.out
      have BW := Lib.hid (show Below b w v.drew from H1.out.bel.drew)
      refine region_Z (fun (w' : World) => w'.cell? ⟨g, 3, none⟩ = some (.int .i64 lo) ∧ w'.cell? ⟨g, 4, none⟩ = some (.int .i64 hi)) 13 mixedZ SX (fun _ => ?_)
      refine anyZ_take2 0 [] (v := ?_) rfl (by kernel_rfl) (by kernel_rfl) rfl (by kernel_rfl) (by kernel_rfl) (by kernel_rfl) (fun _ _ _ h => h) (Or.inl ⟨by rfl, ?_⟩) (by assumption) ?_
      rotate_left
      · intro w hSw
        obtain ⟨q0, q1⟩ := hSw
        go_simp
        try (with_reducible rfl)
      (try simp only [Act.put]); (try simp only [List.setIfInBounds_toArray]); (try simp only [List.set_cons_zero, List.set_cons_succ])
      refine anyZ_take2 1 [12, 11, 5, 4, 3, 2] (v := ?_) rfl (by kernel_rfl) (by kernel_rfl) rfl (by kernel_rfl) (by kernel_rfl) (by kernel_rfl) (fun _ _ _ h => h) (Or.inl ⟨by rfl, ?_⟩) (by assumption) ?_
      rotate_left
      · intro w hSw
        obtain ⟨q0, q1⟩ := hSw
        go_simp
        try (with_reducible rfl)
      (try simp only [Act.put]); (try simp only [List.setIfInBounds_toArray]); (try simp only [List.set_cons_zero, List.set_cons_succ])
      refine anyZ_take2 2 [12, 11, 5, 4, 3] (v := ?_) rfl (by kernel_rfl) (by kernel_rfl) rfl (by kernel_rfl) (by kernel_rfl) (by kernel_rfl) (fun _ _ _ h => h) (Or.inl ⟨by rfl, ?_⟩) (by assumption) ?_
      rotate_left
      · intro w hSw
        obtain ⟨q0, q1⟩ := hSw
        go_simp
        try (with_reducible rfl)
      (try simp only [Act.put]); (try simp only [List.setIfInBounds_toArray]); (try simp only [List.set_cons_zero, List.set_cons_succ])
      refine anyZ_take2 3 [12, 11, 5, 4] (v := ?_) rfl (by kernel_rfl) (by kernel_rfl) rfl (by kernel_rfl) (by kernel_rfl) (by kernel_rfl) (fun _ _ _ h => h) (Or.inl ⟨by rfl, ?_⟩) (by assumption) ?_
      rotate_left
      · intro w hSw
        obtain ⟨q0, q1⟩ := hSw
        go_simp
        try (with_reducible rfl)
      (try simp only [Act.put]); (try simp only [List.setIfInBounds_toArray]); (try simp only [List.set_cons_zero, List.set_cons_succ])
      refine anyZ_take2 4 [12, 11, 5] (v := ?_) rfl (by kernel_rfl) (by kernel_rfl) rfl (by kernel_rfl) (by kernel_rfl) (by kernel_rfl) (fun _ _ _ h => h) (Or.inl ⟨by rfl, ?_⟩) (by assumption) ?_
      rotate_left
      · intro w hSw
        obtain ⟨q0, q1⟩ := hSw
        go_simp
        try (with_reducible rfl)
      (try simp only [Act.put]); (try simp only [List.setIfInBounds_toArray]); (try simp only [List.set_cons_zero, List.set_cons_succ])
      refine anyZ_take2 5 [12, 11] (v := ?_) rfl (by kernel_rfl) (by kernel_rfl) rfl (by kernel_rfl) (by kernel_rfl) (by kernel_rfl) (fun _ _ _ h => h) (Or.inl ⟨by rfl, ?_⟩) (by assumption) ?_
      rotate_left
      · intro w hSw
        obtain ⟨q0, q1⟩ := hSw
        go_simp
        try (with_reducible rfl)
      (try simp only [Act.put]); (try simp only [List.setIfInBounds_toArray]); (try simp only [List.set_cons_zero, List.set_cons_succ])
      refine anyZ_take2 6 [12, 11, 10, 9, 8, 7] (v := ?_) rfl (by kernel_rfl) (by kernel_rfl) rfl (by kernel_rfl) (by kernel_rfl) (by kernel_rfl) (fun _ _ _ h => h) (Or.inl ⟨by rfl, ?_⟩) (by assumption) ?_
      rotate_left
      · intro w hSw
        obtain ⟨q0, q1⟩ := hSw
        go_simp
        try (with_reducible rfl)
      (try simp only [Act.put]); (try simp only [List.setIfInBounds_toArray]); (try simp only [List.set_cons_zero, List.set_cons_succ])
      refine anyZ_take2 7 [12, 11, 10, 9, 8] (v := ?_) rfl (by kernel_rfl) (by kernel_rfl) rfl (by kernel_rfl) (by kernel_rfl) (by kernel_rfl) (fun _ _ _ h => h) (Or.inl ⟨by rfl, ?_⟩) (by assumption) ?_
      rotate_left
      · intro w hSw
        obtain ⟨q0, q1⟩ := hSw
        go_simp
        try (with_reducible rfl)
      (try simp only [Act.put]); (try simp only [List.setIfInBounds_toArray]); (try simp only [List.set_cons_zero, List.set_cons_succ])
      refine anyZ_take2 8 [12, 11, 10, 9] (v := ?_) rfl (by kernel_rfl) (by kernel_rfl) rfl (by kernel_rfl) (by kernel_rfl) (by kernel_rfl) (fun _ _ _ h => h) (Or.inl ⟨by rfl, ?_⟩) (by assumption) ?_
      rotate_left
      · intro w hSw
        obtain ⟨q0, q1⟩ := hSw
        go_simp
        try (with_reducible rfl)
      (try simp only [Act.put]); (try simp only [List.setIfInBounds_toArray]); (try simp only [List.set_cons_zero, List.set_cons_succ])
      refine anyZ_take2 9 [12, 11, 10] (v := ?_) rfl (by kernel_rfl) (by kernel_rfl) rfl (by kernel_rfl) (by kernel_rfl) (by kernel_rfl) (fun _ _ _ h => h) (Or.inl ⟨by rfl, ?_⟩) (by assumption) ?_
      rotate_left
      · intro w hSw
        obtain ⟨q0, q1⟩ := hSw
        go_simp
        try (with_reducible rfl)
      (try simp only [Act.put]); (try simp only [List.setIfInBounds_toArray]); (try simp only [List.set_cons_zero, List.set_cons_succ])
      refine anyZ_take2 10 [12, 11] (v := ?_) rfl (by kernel_rfl) (by kernel_rfl) rfl (by kernel_rfl) (by kernel_rfl) (by kernel_rfl) (fun _ _ _ h => h) (Or.inl ⟨by rfl, ?_⟩) (by assumption) ?_
      rotate_left
      · intro w hSw
        obtain ⟨q0, q1⟩ := hSw
        go_simp
        try (with_reducible rfl)
      (try simp only [Act.put]); (try simp only [List.setIfInBounds_toArray]); (try simp only [List.set_cons_zero, List.set_cons_succ])
      refine anyZ_one 11 rfl (by kernel_rfl) (fun K hK => ?_)
      refine wpOp_step rfl (fun K' hK' => ?_)
      go_simp
      go_at_call 63
      (with_reducible refine (TI.out _ BW.out).mono ?_)
      rintro r9 v3 ⟨rfl, b3⟩
      have B3 := Lib.hid (show Below v.heap.size v v3 from B1.out.trans b3)
      have S3 := SK.out v3 B3.out
      clear b3
      refine hK' _ _ (hK _ _ ⟨fun _ => S3, ?_⟩)
      clear hK hK' K K' SX S3
      refine anyZ_one 12 rfl (by kernel_rfl) (fun K hK => ?_)
      refine wpOp_step rfl (fun K' hK' => ?_)
      go_simp
      refine hK' _ _ (hK _ _ ⟨fun _ => SK.out _ (B3.out.alloc B3.out.size _), ?_⟩)
      clear hK hK' K K'
      refine anyZ_one 13 rfl (by kernel_rfl) (fun K hK => ?_)
      refine wpOp_step rfl (fun K' hK' => ?_)
      go_simp
      go_at_call 41
      have P4 := put1 (H1.out.bd.below B3.out) ⟨(timesT lo hi).toArray⟩ HL4.out
      (with_reducible refine P4.mono ?_)
      rintro r9 v5 ⟨rfl, h5⟩
      have W5 := Lib.hid (show Wrt v b (t ++ TK ++ timesT lo hi) v5 from Wrt.pre B3.out hlv h5)
      clear h5 P4
      refine hK' _ _ (hK _ _ ⟨fun h => absurd rfl h, ?_⟩)
      clear hK hK' K K'
      refine anyZ_done (by kernel_rfl) ?_ _
      have H9 := Lib.hid (show Wrt w b (t ++ (TK ++ timesT lo hi)) v5 from by
        have := H1.out.trans W5.out
        rw [List.append_assoc] at this
        exact this)
      go_wp2_with fail
      go_end0
      exact ⟨rfl, H9.out⟩
    · have hk0 := A.kid i hil hi o
      have ET : txtF l i = 33 :: (txtP l (l[i].kids.headD 0).toNat).2 := by
        rcases TE with TE | TE
        · unfold txtF; rw [TE]; simp only; rw [if_neg (by omega), if_pos o]
        · rw [TE.1] at hk0; exact absurd hk0 (by decide)
      rw [ET] at hlen ⊢
      rw [List.length_cons] at hlen
      obtain ⟨pg, po, q, m, rfl, ck, hm, hq, hbq, -⟩ := kid_at (P.below hh) hr hkB hk0
      have WQ := WK _ (List.getElem_mem hk0)
      rw [head_0 hk0] at hlen ⊢
      have eq1 : Bs.getD l[i].kids[0].toNat 0 = q := by simp [List.getD_eq_getElem?_getD, hbq]
      have WY := Lib.hid (fun (w' : World) (t' : List UInt8) (h1 : Below b w w') (h2 : Bd w' b t') (h3 : t'.length + (txtP l (l[i].kids[0]'hk0).toNat).2.length ≤ 140737488355328) => show Calls Tryz.prog 40 #[.pointer (some ⟨q, 0, none⟩), .pointer (some ⟨b, 0, none⟩)] w' (fun e w'' => e = .returned (.tuple #[]) ∧ Wrt w' b (t' ++ (txtP l (l[i].kids[0]'hk0).toNat).2) w'') by
        have := WQ w' t' h1 h2 h3
        rw [eq1] at this
        exact this)
      have P1 := Lib.hid (put1 hb ⟨#[33]⟩ (by rw [show (⟨#[33]⟩ : ByteArray).size = 1 from rfl]; omega))
      have KB := Lib.hid (fun (w' : World) (h : Below b w w') => show w'.cell? ⟨Bs[i], 6, none⟩ = some (.slice (some ⟨pg, po, none⟩) l[i].kids.length pc) ∧ w'.cell? ⟨pg, po, none⟩ = some (.pointer (some ⟨q, 0, none⟩)) by
        refine ⟨(NB w' h).cell 6, ?_⟩
        have hh2 : Below w0.heap.size w0 w' := by rw [← h0]; exact hw.trans h
        obtain ⟨pg', po', q', m', e1, e2, e3, e4, e5, -⟩ := kid_at (P.below hh2) (hr0.below hh2) hkB hk0
        injection e1 with e1
        injection e1 with e1 e1' _
        subst e1; subst e1'
        rw [Nat.add_zero] at e2
        rw [hbq] at e5
        injection e5 with e5
        rw [e5]; exact e2)
      rw [o] at c0
      clear WK WQ TE NB hr hr0 ET hblk hblk0 hh ih h0 hops hkB hk hcd hf hp eq1 hbq hm hq
      rw [Nat.add_zero] at ck
      generalize (txtP l l[i].kids[0].toNat).2 = xt at *
      generalize l[i].kids.length = kn at *
      have kI : (0 : Int) < (kn : Int) := by omega
      generalize Bs[i] = g at *
      unfold ptr at *
      go_enter Tryz.func40, Tryz.ntmps40
      go_wp2_with fail
      (with_reducible refine P1.out.mono ?_)
      rintro e v ⟨rfl, h1⟩
      have H1 := Lib.hid h1
      obtain ⟨d6, d0⟩ := KB.out v h1.bel
      have HL2 := Lib.hid (show (t ++ (⟨#[33]⟩ : ByteArray).data.toList).length + xt.length ≤ 140737488355328 by rw [List.length_append]; show t.length + 1 + _ ≤ _; omega)
      clear h1 c0 c6
      go_wp2_with fail
      (with_reducible refine (WY.out v _ H1.out.bel H1.out.bd HL2.out).mono ?_)
      rintro e v2 ⟨rfl, h2⟩
      have H2 := Lib.hid (show Wrt w b (t ++ 33 :: xt) v2 by
        have := H1.out.trans h2
        rw [List.append_assoc] at this
        exact this)
      clear h2
      go_wp2_with fail
      go_end0
      exact ⟨rfl, H2.out⟩
end Go.Proofs.YtkajadkmdcalmaaGreatDoor
