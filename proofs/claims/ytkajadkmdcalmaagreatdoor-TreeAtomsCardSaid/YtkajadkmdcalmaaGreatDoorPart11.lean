/-
  WHAT THE ROWS REST ON, part 11: Rzl Ttp.
-/
import Derived.Deep.RegionHeld3
import Derived.Test.YtkajadkmdcalmaaGreatDoorPart10
/-
  A REGION WHOSE LAST STORE TURNS A CELL THAT THE REGION LOADS: what is held (S) must hold behind each operation but that store.
-/
namespace Go.Proofs.YtkajadkmdcalmaaGreatDoor
open Go.RowKit
section
variable {P : Program} {ops : Array Oper} {Q : Exit → Act → World → Prop} {md : Region.Mode} {S : World → Prop} {z : Nat}
/-- whatever order is picked from here on; S holds behind each operation but z -/
def anyZ (P : Program) (md : Region.Mode) (ops : Array Oper) (Q : Exit → Act → World → Prop) (S : World → Prop) (z : Nat) : Nat → Array Bool → Act → World → Prop
  | 0, L, a, w => Region.ready md ops L = [] ∧ Q .normal a w
  | n + 1, L, a, w => (Region.ready md ops L = [] → Q .normal a w) ∧ ∀ i ∈ Region.ready md ops L, wpOp P ops Q i (fun a' w' => (i ≠ z → S w') ∧ anyZ P md ops Q S z n (L.setIfInBounds i true) a' w') a w
theorem any_of_Z : ∀ (n : Nat) (L : Array Bool) (a : Act) (w : World), anyZ P md ops Q S z n L a w → wpAny P md ops Q n L a w
  | 0, _, _, _, h => h
  | n + 1, _, _, _, h => ⟨h.1, fun i hi => wpOp_mono (fun a' w' h' => any_of_Z n _ a' w' h'.2) (h.2 i hi)⟩
/-- operation i is taken first: z waits for it -/
theorem anyZ_first {i : Nat} {oi oz : Oper} {v : Value} (hi : ops[i]? = some oi) (hz : ops[z]? = some oz) (hiz : (oz.after.any fun e => Region.binds md e && e.on == i) = true) (hsel : ∀ (j : Nat) (o : Oper) cs b, ops[j]? = some o → o.op ≠ .select cs b)
    (hQ : ∀ c a w, Q (.panic c) (a.put oi.dst v) w → Q (.panic c) a w) (hne : i ≠ z) :
    ∀ (n : Nat) (L : Array Bool) (a : Act) (w : World),
      (∀ j oj, ops[j]? = some oj → j ≠ i → L.getD j true = false → (∀ e ∈ oj.after, Region.binds md e = true → e.on ≠ i) → oi.apart ops oj = true) →
      i ∈ Region.ready md ops L → YieldsIf P ops S oi v a → S w → anyZ P md ops Q S z n (L.setIfInBounds i true) (a.put oi.dst v) w → anyZ P md ops Q S z (n + 1) L a w := by
  intro n
  induction n with
  | zero =>
    intro L a w _ hr hy hS H
    refine ⟨fun h => (by rw [h] at hr; cases hr), fun j hj => ?_⟩
    by_cases hji : j = i
    · subst hji
      exact hy.wpOp hi hS ⟨fun _ => hS, H⟩
    · have := ready_mono hj hji
      rw [H.1] at this
      cases this
  | succ n ih =>
    intro L a w hfree hr hy hS H
    refine ⟨fun h => (by rw [h] at hr; cases hr), fun j hj => ?_⟩
    by_cases hji : j = i
    · subst hji
      exact hy.wpOp hi hS ⟨fun _ => hS, H⟩
    · have h1 := H.2 j (ready_mono hj hji)
      obtain ⟨hjun, oj, hoj, hall⟩ := mem_ready.1 hj
      have hnot : ∀ e ∈ oj.after, Region.binds md e = true → e.on ≠ i := fun e he hb heq => by
        have h1 := hall e he hb
        have h0 := (mem_ready.1 hr).1
        rw [heq] at h1
        rcases Nat.lt_or_ge i L.size with h' | h'
        · simp [h'] at h0 h1; rw [h0] at h1; cases h1
        · simp [Array.getElem?_eq_none h'] at h1
      have hjz : j ≠ z := fun e => by
        subst e
        rw [hz] at hoj
        cases hoj
        obtain ⟨k, hk, he⟩ := Array.any_eq_true.1 hiz
        simp only [Bool.and_eq_true, beq_iff_eq] at he
        exact hnot _ (Array.getElem_mem hk) he.1 he.2
      have h2 := wpOp_putIf hoj (hfree j oj hoj hji hjun hnot) (fun cs b => hsel i oi cs b hi) (fun cs b => hsel j oj cs b hoj) hQ hy h1
      have hfree' : ∀ k ok, ops[k]? = some ok → k ≠ i → (L.setIfInBounds j true).getD k true = false → (∀ e ∈ ok.after, Region.binds md e = true → e.on ≠ i) → oi.apart ops ok = true := fun k ok hk hki hun hno => by
        refine hfree k ok hk hki ?_ hno
        by_cases hjk : j = k
        · subst hjk; exact hjun
        · rw [getD_set_ne true hjk] at hun; exact hun
      refine wpOp_mono (fun a' w' h3 => ⟨h3.2.1, ih (L.setIfInBounds j true) a' w' hfree' (ready_mono hr (Ne.symm hji)) h3.1 (h3.2.1 hjz) ?_⟩) h2
      rw [Array.setIfInBounds_comm _ _ hji]
      exact h3.2.2
theorem anyZ_take {oz : Oper} (i : Nat) {oi : Oper} {v : Value} {n : Nat} {L : Array Bool} {a : Act} {w : World} (hi : ops[i]? = some oi) (hz : ops[z]? = some oz) (hiz : (oz.after.any fun e => Region.binds md e && e.on == i) = true) (hne : (i == z) = false)
    (hs : Region.noSelect ops = true) (hf : Region.free md ops L i = true) (hr : (Region.ready md ops L).contains i = true)
    (hQ : ∀ c a w, Q (.panic c) (a.put oi.dst v) w → Q (.panic c) a w) (hy : YieldsIf P ops S oi v a) (hS : S w)
    (h : anyZ P md ops Q S z n (L.setIfInBounds i true) (a.put oi.dst v) w) : anyZ P md ops Q S z (n + 1) L a w :=
  anyZ_first hi hz hiz (Region.noSelect_spec hs) hQ (by simpa using hne) n L a w (Region.free_spec hi hf) (by simpa using hr) hy hS h
def waits (md : Region.Mode) (ops : Array Oper) (x y : Nat) : Bool := match ops[x]? with
  | some o => o.after.any fun e => Region.binds md e && e.on == y
  | none => false
/-- z waits for the first, each for the next one, the last one for i -/
def chainB (md : Region.Mode) (ops : Array Oper) : Nat → List Nat → Nat → Bool
  | z, [], i => waits md ops z i
  | z, k :: ks, i => waits md ops z k && chainB md ops k ks i
theorem not_ready {L : Array Bool} {x y : Nat} (h : waits md ops x y = true) (hy : L.getD y true = false) : x ∉ Region.ready md ops L := fun hx => by
  obtain ⟨_, oj, hoj, hall⟩ := mem_ready.1 hx
  unfold waits at h
  rw [hoj] at h
  obtain ⟨q, hq, he⟩ := Array.any_eq_true.1 h
  simp only [Bool.and_eq_true, beq_iff_eq] at he
  have h1 := hall _ (Array.getElem_mem hq) he.1
  rw [he.2] at h1
  rcases Nat.lt_or_ge y L.size with h' | h'
  · simp [h'] at hy h1; rw [hy] at h1; cases h1
  · simp [Array.getElem?_eq_none h'] at h1
theorem chain_off {L : Array Bool} {i : Nat} (hi : L.getD i true = false) : ∀ (ks : List Nat) (x : Nat), chainB md ops x ks i = true → (∀ k ∈ ks, L.getD k true = false) → x ∉ Region.ready md ops L ∧ ∀ k ∈ ks, k ∉ Region.ready md ops L
  | [], x, h, _ => ⟨not_ready h hi, fun _ hk => by cases hk⟩
  | k :: ks, x, h, hL => by
    unfold chainB at h
    rw [Bool.and_eq_true] at h
    have ih := chain_off hi ks k h.2 (fun q hq => hL q (by simp [hq]))
    refine ⟨not_ready h.1 (hL k (by simp)), fun q hq => ?_⟩
    rcases List.mem_cons.1 hq with rfl | hq
    · exact ih.1
    · exact ih.2 q hq
/-- operation i is taken first: z waits for it, by others -/
theorem anyZ_first2 {i : Nat} {ks : List Nat} {oi : Oper} {v : Value} (hi : ops[i]? = some oi) (hc : chainB md ops z ks i = true)
    (hsel : ∀ (j : Nat) (o : Oper) cs b, ops[j]? = some o → o.op ≠ .select cs b) (hQ : ∀ c a w, Q (.panic c) (a.put oi.dst v) w → Q (.panic c) a w) (hne : i ≠ z) :
    ∀ (n : Nat) (L : Array Bool) (a : Act) (w : World), (∀ k ∈ ks, L.getD k true = false) →
      (∀ j oj, ops[j]? = some oj → j ≠ i → L.getD j true = false → (∀ e ∈ oj.after, Region.binds md e = true → e.on ≠ i) → oi.apart ops oj = true) →
      i ∈ Region.ready md ops L → YieldsIf P ops S oi v a → S w → anyZ P md ops Q S z n (L.setIfInBounds i true) (a.put oi.dst v) w → anyZ P md ops Q S z (n + 1) L a w := by
  intro n
  induction n with
  | zero =>
    intro L a w _ _ hr hy hS H
    refine ⟨fun h => (by rw [h] at hr; cases hr), fun j hj => ?_⟩
    by_cases hji : j = i
    · subst hji
      exact hy.wpOp hi hS ⟨fun _ => hS, H⟩
    · have := ready_mono hj hji
      rw [H.1] at this
      cases this
  | succ n ih =>
    intro L a w hLk hfree hr hy hS H
    refine ⟨fun h => (by rw [h] at hr; cases hr), fun j hj => ?_⟩
    by_cases hji : j = i
    · subst hji
      exact hy.wpOp hi hS ⟨fun _ => hS, H⟩
    · have h1 := H.2 j (ready_mono hj hji)
      obtain ⟨hjun, oj, hoj, hall⟩ := mem_ready.1 hj
      have hnot : ∀ e ∈ oj.after, Region.binds md e = true → e.on ≠ i := fun e he hb heq => by
        have h1 := hall e he hb
        have h0 := (mem_ready.1 hr).1
        rw [heq] at h1
        rcases Nat.lt_or_ge i L.size with h' | h'
        · simp [h'] at h0 h1; rw [h0] at h1; cases h1
        · simp [Array.getElem?_eq_none h'] at h1
      have CO := chain_off (mem_ready.1 hr).1 ks z hc hLk
      have hjz : j ≠ z := fun e => CO.1 (e ▸ hj)
      have hjk : ∀ k ∈ ks, j ≠ k := fun k hk e => CO.2 k hk (e ▸ hj)
      have h2 := wpOp_putIf hoj (hfree j oj hoj hji hjun hnot) (fun cs b => hsel i oi cs b hi) (fun cs b => hsel j oj cs b hoj) hQ hy h1
      have hfree' : ∀ k ok, ops[k]? = some ok → k ≠ i → (L.setIfInBounds j true).getD k true = false → (∀ e ∈ ok.after, Region.binds md e = true → e.on ≠ i) → oi.apart ops ok = true := fun k ok hk hki hun hno => by
        refine hfree k ok hk hki ?_ hno
        by_cases hjk : j = k
        · subst hjk; exact hjun
        · rw [getD_set_ne true hjk] at hun; exact hun
      refine wpOp_mono (fun a' w' h3 => ⟨h3.2.1, ih (L.setIfInBounds j true) a' w' (fun k hk => by rw [getD_set_ne true (hjk k hk)]; exact hLk k hk) hfree' (ready_mono hr (Ne.symm hji)) h3.1 (h3.2.1 hjz) ?_⟩) h2
      rw [Array.setIfInBounds_comm _ _ hji]
      exact h3.2.2
theorem anyZ_take2 (i : Nat) (ks : List Nat) {oi : Oper} {v : Value} {n : Nat} {L : Array Bool} {a : Act} {w : World} (hi : ops[i]? = some oi) (hc : chainB md ops z ks i = true) (hL : ks.all (fun k => !L.getD k true) = true) (hne : (i == z) = false)
    (hs : Region.noSelect ops = true) (hf : Region.free md ops L i = true) (hr : (Region.ready md ops L).contains i = true)
    (hQ : ∀ c a w, Q (.panic c) (a.put oi.dst v) w → Q (.panic c) a w) (hy : YieldsIf P ops S oi v a) (hS : S w)
    (h : anyZ P md ops Q S z n (L.setIfInBounds i true) (a.put oi.dst v) w) : anyZ P md ops Q S z (n + 1) L a w :=
  anyZ_first2 hi hc (Region.noSelect_spec hs) hQ (by simpa using hne) n L a w (fun k hk => by have := List.all_eq_true.1 hL k hk; simpa using this) (Region.free_spec hi hf) (by simpa using hr) hy hS h
/-- one operation alone may come up -/
theorem anyZ_one (i : Nat) {oi : Oper} {n : Nat} {L : Array Bool} {a : Act} {w : World} (hi : ops[i]? = some oi) (hr : Region.ready md ops L = [i])
    (h : ∀ K : Act → World → Prop, (∀ a w, ((i ≠ z → S w) ∧ anyZ P md ops Q S z n (L.setIfInBounds i true) a w) → K a w) → wpOp P ops Q i K a w) : anyZ P md ops Q S z (n + 1) L a w :=
  ⟨fun h0 => (by rw [hr] at h0; cases h0), fun j hj => by
    rw [hr] at hj
    obtain rfl := List.mem_singleton.1 hj
    exact h _ (fun _ _ hk => hk)⟩
theorem anyZ_done {L : Array Bool} {a : Act} {w : World} (hr : Region.ready md ops L = []) (h : Q .normal a w) : ∀ n, anyZ P md ops Q S z n L a w
  | 0 => ⟨hr, h⟩
  | _ + 1 => ⟨fun _ => h, by rw [hr]; simp⟩
theorem region_Z {id : Nat} {a : Act} {w : World} (S : World → Prop) (z : Nat) (hm : P.follows .mixedOrders = true) (hS : S w.drew)
    (h : S w.drew → anyZ P .any ops Q S z ops.size (Array.replicate ops.size false) a w.drew) : (Code.region id ops true).wp P Q a w :=
  wp_region_any hm (any_of_Z _ _ _ _ (h hS))
end
end Go.Proofs.YtkajadkmdcalmaaGreatDoor
/-
  THE TEXT OF A PATTERN, plainly; sign, binds.
-/
namespace Go.Proofs.YtkajadkmdcalmaaGreatDoor
open Go.RowKit
def signT (op : Int) : List UInt8 := if op = 1 then [61] else if op = 2 then [33, 61] else if op = 3 then [60] else if op = 4 then [60, 61] else if op = 5 then [62] else [62, 61]
/-- the 16 digits of bits -/
def hexD (n : Nat) : UInt8 := if n < 10 then (48 + n).toUInt8 else (87 + n).toUInt8
def hexT (f : Nat) : List UInt8 := (List.range 16).map fun i => hexD (f / 16 ^ (15 - i) % 16)
def valT (v : Val) : List UInt8 := if v.k = 1 then Lib.itoa v.n else if v.k = 2 then 35 :: hexT v.f else [39] ++ v.s.data.toList ++ [39]
def condT (c : Cnd) : List UInt8 := c.nm.data.toList ++ signT c.op ++ valT c.v
/-- the conditions, with what stands ahead of each -/
def condsT : List UInt8 → List Cnd → List UInt8
  | _, [] => []
  | ahead, c :: cs => ahead ++ condT c ++ condsT [44, 32] cs
def kindT (k : ByteArray) : List UInt8 := if k.size = 0 then [97, 110, 121] else k.data.toList
def atomT (n : Nd) : List UInt8 := kindT n.kind ++ condsT [91] n.conds ++ (if n.conds.length = 0 then [] else [93])
def timesT (lo hi : Int) : List UInt8 :=
  if lo = 0 ∧ hi = -1 then [42] else if lo = 1 ∧ hi = -1 then [43] else if lo = 0 ∧ hi = 1 then [63] else if hi = -1 then [123] ++ Lib.itoa lo ++ [44, 125] else [123] ++ Lib.itoa lo ++ [44] ++ Lib.itoa hi ++ [125]
def bindsF (op : Int) : Int := if op = 3 then 1 else if op = 2 then 2 else if op = 4 then 3 else 4
def pieceT (op : Int) (x : Int × List UInt8) : List UInt8 := if bindsF op < bindsF x.1 then x.2 else [40] ++ x.2 ++ [41]
def kidsT (between : List UInt8) (op : Int) : List (Int × List UInt8) → List UInt8
  | [] => []
  | x :: xs => pieceT op x ++ xs.flatMap fun y => between ++ pieceT op y
def txtG (n : Nd) (acc : List (Int × List UInt8)) : Int × List UInt8 :=
  (n.op, if n.op = 1 then atomT n else if n.op = 5 then 33 :: (acc.getD (n.kids.headD 0).toNat (0, [])).2
    else if n.op = 2 then kidsT [32, 59, 32] n.op (n.kids.map fun k => acc.getD k.toNat (0, []))
    else if n.op = 3 then kidsT [32, 124, 32] n.op (n.kids.map fun k => acc.getD k.toNat (0, []))
    else if n.op = 4 then kidsT [] n.op (n.kids.map fun k => acc.getD k.toNat (0, [])) ++ timesT n.lo n.hi else [])
theorem txtG_eq (n : Nd) (acc : List (Int × List UInt8)) : txtG n acc = (n.op, if n.op = 1 then atomT n else if n.op = 5 then 33 :: (acc.getD (n.kids.headD 0).toNat (0, [])).2
    else if n.op = 2 then kidsT [32, 59, 32] n.op (n.kids.map fun k => acc.getD k.toNat (0, []))
    else if n.op = 3 then kidsT [32, 124, 32] n.op (n.kids.map fun k => acc.getD k.toNat (0, []))
    else if n.op = 4 then kidsT [] n.op (n.kids.map fun k => acc.getD k.toNat (0, [])) ++ timesT n.lo n.hi else []) := rfl
def txtP (l : List Nd) (i : Nat) : Int × List UInt8 := (made txtG l).getD i (0, [])
def txtF (l : List Nd) (i : Nat) : List UInt8 := (txtP l i).2
/-- the text of a whole -/
def wholeT (l : List Nd) (within : Int) : List UInt8 := txtF l (l.length - 1) ++ (if within = 0 then [] else [32, 119, 105, 116, 104, 105, 110, 32] ++ Lib.itoa within)
theorem txtP_eq {l : List Nd} {i : Nat} (h : i < l.length) (hk : kidsIn l[i] i) : txtP l i = (l[i].op, if l[i].op = 1 then atomT l[i] else if l[i].op = 5 then 33 :: (txtP l (l[i].kids.headD 0).toNat).2
    else if l[i].op = 2 then kidsT [32, 59, 32] l[i].op (l[i].kids.map fun k => txtP l k.toNat)
    else if l[i].op = 3 then kidsT [32, 124, 32] l[i].op (l[i].kids.map fun k => txtP l k.toNat)
    else if l[i].op = 4 then kidsT [] l[i].op (l[i].kids.map fun k => txtP l k.toNat) ++ timesT l[i].lo l[i].hi else []) ∨ l[i].kids = [] ∧ l[i].op = 5 := by
  have e : ∀ k ∈ l[i].kids, (made txtG (l.take i)).getD k.toNat (0, []) = txtP l k.toNat := fun k hm => by
    have := hk k hm
    unfold txtP
    rw [List.getD_eq_getElem?_getD, List.getD_eq_getElem?_getD, made_take txtG l (show k.toNat < i by omega) (by omega)]
  have em : (l[i].kids.map fun k => (made txtG (l.take i)).getD k.toNat (0, [])) = l[i].kids.map fun k => txtP l k.toNat := List.map_congr_left e
  have e0 : txtP l i = txtG l[i] (made txtG (l.take i)) := by
    conv => lhs; unfold txtP
    rw [List.getD_eq_getElem?_getD, made_get txtG l h, Option.getD_some]
  by_cases h5 : l[i].kids = [] ∧ l[i].op = 5
  · exact .inr h5
  · left
    rw [e0, txtG_eq, em]
    by_cases h1 : l[i].op = 1
    · rw [if_pos h1, if_pos h1]
    rw [if_neg h1, if_neg h1]
    by_cases h2 : l[i].op = 5
    · rw [if_pos h2, if_pos h2]
      cases hks : l[i].kids with
      | nil => exact absurd ⟨hks, h2⟩ h5
      | cons k ks => rw [show (k :: ks).headD 0 = k from rfl, e k (by rw [hks]; simp)]
    · rw [if_neg h2, if_neg h2]
set_option maxHeartbeats 1000000 in
theorem sign_any (op : Int) (h1 : 1 ≤ op) (h2 : op ≤ 6) (w : World) : Calls Tryz.prog 89 #[.int .i64 op] w fun e w' => e = .returned (.string ⟨(signT op).toArray⟩) ∧ w = w' := by
  obtain rfl | rfl | rfl | rfl | rfl | rfl : op = 1 ∨ op = 2 ∨ op = 3 ∨ op = 4 ∨ op = 5 ∨ op = 6 := by omega
  all_goals
    go_enter Tryz.func89, Tryz.ntmps89
    go_wp2_with fail
    go_ret
    exact ⟨rfl, rfl⟩
set_option maxHeartbeats 1000000 in
theorem binds_any {w : World} {Bs : List Nat} {n : Nd} {g : Nat} (h : PartOk w Bs n g) (ho : 1 ≤ n.op ∧ n.op ≤ 5) :
    Calls Tryz.prog 91 #[ptr g] w fun e w' => e = .returned (.int .i64 (bindsF n.op)) ∧ w = w' := by
  obtain ⟨ca, cc, ka, kc, pa, pc, hb, -⟩ := h.ex
  have c0 : w.cell? ⟨g, 0, none⟩ = some (.int .i64 n.op) := hb.cell 0
  clear hb h
  generalize n.op = op at *
  unfold ptr
  obtain rfl | rfl | rfl | rfl | rfl : op = 1 ∨ op = 2 ∨ op = 3 ∨ op = 4 ∨ op = 5 := by omega
  all_goals
    go_enter Tryz.func91, Tryz.ntmps91
    go_wp2_with fail
    go_ret
    exact ⟨rfl, rfl⟩
end Go.Proofs.YtkajadkmdcalmaaGreatDoor
