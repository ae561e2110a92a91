/-
  WHAT THE ROWS REST ON, part 8: Ttk Opn.
-/
import Derived.Deep.AppendLies
import Derived.Laws.OwnMore
import Derived.Test.YtkajadkmdcalmaaGreatDoorPart7
/-
  take: the parts of some numbers are taken out of the row of parts.
-/
namespace Go.Proofs.YtkajadkmdcalmaaGreatDoor
open Go.RowKit
theorem infoP : (Tryz.prog.info? 62).map (fun i => (i.zero, i.size, i.bytes)) = some (some (.pointer none), 1, 8) := by kernel_rfl
theorem append_val {ops : Array Oper} {rest : List Oper} {o : Oper} {a : Act} {Q : Exit → Act → World → Prop} (W : World) (hgd : o.guard = none) (s x : Operand)
    (ho : o.op = .call { callee := .builtin .append, args := #[s, x], argTypes := #[88, 88] })
    (B : Nat) (v : Value) (n : Nat) (xs : List Value) (hs : a.eval s = v) (hown : W.ownsRow B 62 1 v n xs) (q : Option Addr)
    (hx : a.eval x = .slice (some ⟨W.heap.size, 0, none⟩) 1 1) (hlen : n ≤ 1000000) (hB : B ≤ W.heap.size)
    (h : ∀ g cap w', w'.ownsRow B 62 1 (.slice (some ⟨g, 0, none⟩) (n + 1) cap) (n + 1) (xs ++ [.pointer q]) → W.grownBy w' v.ownBlock → (v.ownBlock = some g ∨ W.heap.size < g) → wpList Tryz.prog ops Q rest (a.put o.dst (.slice (some ⟨g, 0, none⟩) (n + 1) cap)) w') :
    wpList Tryz.prog ops Q (o :: rest) a (W.alloc (.cells #[.pointer q] 62)) := by
  obtain ⟨i, hi, hz0, hz1, hz2⟩ := info_parts infoP
  refine wpList_append_lies _ hgd s x 88 ho B 62 i (.pointer none) 1 8 Tryz.underlying88 hi hz0 hz1 hz2 rfl (by decide) v n xs hs (hown.alloc _) ⟨W.heap.size, 0, none⟩ 1 1 [.pointer q] hx rfl (World.news_of_block (cs := #[.pointer q]) (heap_alloc_new W _)) (by intro u hu; simp at hu; subst hu; rfl) (by decide) (by unfold maxLen; omega) (by omega) (by simp; omega) _ rfl ?_
  intro g cap w' ho' hg hat _
  refine h g cap w' ho' ?_ ?_
  · have ha := World.grownBy_alloc W (.cells #[.pointer q] 62) v.ownBlock
    exact ⟨hg.os.trans ha.os, hg.tape.trans ha.tape, hg.output.trans ha.output, Nat.le_trans ha.size hg.size, fun k hk hne => (hg.block k (by simp; omega) hne).trans (ha.block k hk hne)⟩
  · rcases hat with e | e
    · exact .inl e
    · exact .inr (by rw [e]; simp)
/-- the row of parts, some of which are taken -/
def pcell (Bs : List Nat) (T : List Int) (i : Nat) : Value := if T.contains (i : Int) then .pointer none else ptr (Bs.getD i 0)
def pcells (Bs : List Nat) (T : List Int) : List Value := (List.range Bs.length).map (pcell Bs T)
theorem pcells_len (Bs : List Nat) (T : List Int) : (pcells Bs T).length = Bs.length := by simp [pcells]
theorem pcells_at {Bs : List Nat} {T : List Int} {i : Nat} (h : i < Bs.length) : (pcells Bs T)[i]? = some (pcell Bs T i) := by simp [pcells, h]
theorem pcells_set {Bs : List Nat} {T : List Int} {k : Nat} (h : k < Bs.length) : (pcells Bs T).set k (.pointer none) = pcells Bs (T ++ [(k : Int)]) := by
  apply List.ext_getElem?
  intro i
  rw [List.getElem?_set]
  by_cases hi : i < Bs.length
  · rw [pcells_at hi, pcells_at hi]
    by_cases e : k = i
    · subst e
      rw [if_pos rfl, if_pos (by rw [pcells_len]; exact hi)]
      unfold pcell
      rw [if_pos (by simp)]
    · rw [if_neg e]
      unfold pcell
      have : (T ++ [(k : Int)]).contains (i : Int) = T.contains (i : Int) := by
        have : ¬ (i : Int) = (k : Int) := by omega
        simp [this]
      rw [this]
  · have n1 : (pcells Bs T)[i]? = none := by rw [List.getElem?_eq_none_iff, pcells_len]; omega
    have n2 : (pcells Bs (T ++ [(k : Int)]))[i]? = none := by rw [List.getElem?_eq_none_iff, pcells_len]; omega
    rw [n1, n2]
    by_cases e : k = i
    · subst e; exact absurd h hi
    · rw [if_neg e]
theorem pcells_more {Bs : List Nat} {T : List Int} {g : Nat} (hT : ∀ k ∈ T, k < (Bs.length : Int)) : pcells Bs T ++ [ptr g] = pcells (Bs ++ [g]) T := by
  unfold pcells
  rw [List.length_append, List.length_singleton, List.range_succ, List.map_append]
  congr 1
  · apply List.map_congr_left
    intro i hi
    have hi' : i < Bs.length := by simpa using hi
    unfold pcell
    rw [List.getD_eq_getElem?_getD, List.getD_eq_getElem?_getD, List.getElem?_append_left hi']
  · simp only [List.map_cons, List.map_nil]
    unfold pcell
    rw [if_neg (by intro h; have := hT _ (by simpa using h); omega), List.getD_eq_getElem?_getD, List.getElem?_append_right (Nat.le_refl _)]
    simp
theorem ptrs_more (Bs : List Nat) (ks : List Int) (k : Int) : ptrs Bs (ks ++ [k]) = ptrs Bs ks ++ [ptr (Bs.getD k.toNat 0)] := by simp [ptrs]
/-- a slice's numbers, in blocks ahead of B -/
def Nums (w : World) (B : Nat) (a : Option Addr) (xs : List Int) : Prop := ∀ i (h : i < xs.length), ∃ g o, a = some ⟨g, o, none⟩ ∧ g < B ∧ w.cell? ⟨g, o + i, none⟩ = some (.int .i64 xs[i])
theorem Nums.below {w w' : World} {B : Nat} {a : Option Addr} {xs : List Int} (h : Nums w B a xs) (hb : Below B w w') : Nums w' B a xs := fun i hi => by
  obtain ⟨g, o, e, hl, c⟩ := h i hi
  exact ⟨g, o, e, hl, by rw [hb.cell (p := ⟨g, _, none⟩) hl]; exact c⟩
theorem gb_below {u v : World} {X B : Nat} (h : u.grownBy v (some X)) (hB : B ≤ X) (hX : X < u.heap.size) : Below B u v :=
  ⟨h.os, h.tape, h.output, h.size, fun k hk => h.block k (by omega) (fun e => by injection e with e; omega)⟩
theorem gb_trans {u v w : World} {r : Option Nat} (h1 : u.grownBy v r) (h2 : v.grownBy w r) : u.grownBy w r :=
  ⟨h2.os.trans h1.os, h2.tape.trans h1.tape, h2.output.trans h1.output, Nat.le_trans h1.size h2.size, fun k hk hn => (h2.block k (Nat.lt_of_lt_of_le hk h1.size) hn).trans (h1.block k hk hn)⟩
theorem gb_over {u v w : World} {X : Nat} {r : Option Nat} (h1 : u.grownBy v (some X)) (h2 : v.grownBy w r) (hr : ∀ q, r = some q → u.heap.size ≤ q) : u.grownBy w (some X) :=
  ⟨h2.os.trans h1.os, h2.tape.trans h1.tape, h2.output.trans h1.output, Nat.le_trans h1.size h2.size, fun k hk hn => (h2.block k (Nat.lt_of_lt_of_le hk h1.size) (fun e => by have := hr k e.symm; omega)).trans (h1.block k hk hn)⟩
/-- within a round of take -/
structure TkI (w wr : World) (B X c : Nat) (Bs : List Nat) (T ks : List Int) (j : Nat) (u : Value) : Prop where
  kids : wr.ownsRow w.heap.size 62 1 u j (ptrs Bs (ks.take j))
  row : wr.ownsRow B 62 1 (.slice (some ⟨X, 0, none⟩) Bs.length c) Bs.length (pcells Bs (T ++ ks.take j))
  gb : w.grownBy wr (some X)
/-- what take answers -/
def Taken (w : World) (B X c : Nat) (Bs : List Nat) (T ks : List Int) (e : Ending) (w' : World) : Prop :=
  (takeOk T Bs.length ks = true ∧ ∃ u, e = .returned (.tuple #[u, .bool true]) ∧ TkI w w' B X c Bs T ks ks.length u) ∨
  (takeOk T Bs.length ks = false ∧ e = .returned (.tuple #[.slice none 0 0, .bool false]) ∧ w.grownBy w' (some X))
theorem takeOk_cons (T : List Int) (n : Nat) (k : Int) (ks : List Int) : takeOk T n (k :: ks) = (decide (0 ≤ k ∧ k < (n : Int)) && !T.contains k && takeOk (T ++ [k]) n ks) := rfl
theorem takeOk_nil (T : List Int) (n : Nat) : takeOk T n [] = true := rfl
/-- after the first ones -/
theorem takeOk_drop : ∀ (ks T : List Int) (n j : Nat), j ≤ ks.length → takeOk T n (ks.take j) = true → takeOk T n ks = takeOk (T ++ ks.take j) n (ks.drop j)
  | ks, T, n, 0, _, _ => by simp
  | [], T, n, j + 1, h, _ => by simp at h
  | k :: ks, T, n, j + 1, h, ht => by
    rw [List.take_succ_cons, List.drop_succ_cons]
    rw [List.take_succ_cons] at ht
    rw [takeOk_cons, Bool.and_eq_true] at ht
    rw [takeOk_cons, ht.1, Bool.true_and, takeOk_drop ks (T ++ [k]) n j (by simpa using h) ht.2]
    simp
theorem takeOk_snoc {T ks : List Int} {n j : Nat} (hj : j < ks.length) (ht : takeOk T n (ks.take j) = true) :
    takeOk T n (ks.take (j + 1)) = (decide (0 ≤ ks[j] ∧ ks[j] < (n : Int)) && !(T ++ ks.take j).contains ks[j]) := by
  have e : (ks.take (j + 1)).take j = ks.take j := by rw [List.take_take]; congr 1; omega
  rw [takeOk_drop (ks.take (j + 1)) T n j (by simp; omega) (by rw [e]; exact ht), e]
  have d : (ks.take (j + 1)).drop j = [ks[j]] := by
    rw [List.take_succ_eq_append_getElem hj, List.drop_append_of_le_length (by simp; omega)]
    simp
  rw [d, takeOk_cons, takeOk_nil, Bool.and_true]
theorem takeOk_stop {T ks : List Int} {n j : Nat} (hj : j < ks.length) (ht : takeOk T n (ks.take j) = true) (hf : (decide (0 ≤ ks[j] ∧ ks[j] < (n : Int)) && !(T ++ ks.take j).contains ks[j]) = false) : takeOk T n ks = false := by
  rw [takeOk_drop ks T n j (by omega) ht, List.drop_eq_getElem_cons hj]
  rw [takeOk_cons, hf, Bool.false_and]
theorem TkI.push {w wr W4 : World} {B X c : Nat} {Bs : List Nat} {T ks : List Int} {j g cap : Nat} {u : Value} (h : TkI w wr B X c Bs T ks j u) (hX : X < w.heap.size) (hj : j < ks.length) {k : Nat} (hk : ks[j] = (k : Int)) (hkn : k < Bs.length)
    (ho : W4.ownsRow w.heap.size 62 1 (.slice (some ⟨g, 0, none⟩) (j + 1) cap) (j + 1) (ptrs Bs (ks.take j) ++ [ptr (Bs.getD k 0)])) (hg : wr.grownBy W4 u.ownBlock) :
    W4.cell? ⟨X, k, none⟩ = some (pcell Bs (T ++ ks.take j) k) ∧ W4.frozen? ⟨X, k, none⟩ = false ∧ TkI w (W4.setCell ⟨X, k, none⟩ (.pointer none)) B X c Bs T ks (j + 1) (.slice (some ⟨g, 0, none⟩) (j + 1) cap) := by
  have hu : ∀ q, u.ownBlock = some q → w.heap.size ≤ q := fun q hq => (World.ownsRow.lt h.kids q hq).1
  have hr : W4.ownsRow B 62 1 (.slice (some ⟨X, 0, none⟩) Bs.length c) Bs.length (pcells Bs (T ++ ks.take j)) := World.ownsRow.kept h.row hg (.inr fun e => by
    have := hu X (by rw [← e]; rfl)
    omega)
  obtain ⟨s1, s2⟩ := World.ownsRow.stored hr k (.pointer none)
  have hgX : g ≠ X := by have := (World.ownsRow.lt ho g rfl).1; omega
  refine ⟨by rw [World.ownsRow.cellAt hr k (by omega), pcells_at hkn], World.ownsRow.frozenAt hr k, ?_, ?_, ?_⟩
  · have e : ptrs Bs (ks.take (j + 1)) = ptrs Bs (ks.take j) ++ [ptr (Bs.getD k 0)] := by
      rw [List.take_succ_eq_append_getElem hj, ptrs_more, hk]; simp
    rw [e]
    exact World.ownsRow.kept ho s2 (.inr fun e => by injection e with e; exact hgX e)
  · have e : pcells Bs (T ++ ks.take (j + 1)) = (pcells Bs (T ++ ks.take j)).set k (.pointer none) := by
      rw [pcells_set hkn, List.take_succ_eq_append_getElem hj, hk, List.append_assoc]
    rw [e]
    exact s1
  · exact gb_trans (gb_over h.gb hg hu) s2
theorem slice_form {w : World} {B : Nat} {e : TypeId} {s : Nat} {v : Value} {n : Nat} {xs : List Value} (h : w.ownsRow B e s v n xs) : ∃ a c, v = .slice a n c := by
  rcases h.2 with ⟨rfl, e⟩ | ⟨g, cap, cur, rfl, _⟩
  · exact ⟨none, 0, by rw [e]⟩
  · exact ⟨_, _, rfl⟩
set_option maxHeartbeats 4000000 in
set_option maxRecDepth 100000 in
theorem take_any {w : World} {B X c : Nat} {Bs : List Nat} {T ks : List Int} {ka : Option Addr} (kc : Nat) (hb : Bs.length ≤ 200) (hk : ks.length ≤ 200) (hN : Nums w B ka ks)
    (hr : w.ownsRow B 62 1 (.slice (some ⟨X, 0, none⟩) Bs.length c) Bs.length (pcells Bs T)) :
    Calls Tryz.prog 35 #[.slice (some ⟨X, 0, none⟩) Bs.length c, .slice ka ks.length kc] w (Taken w B X c Bs T ks) := by
  obtain ⟨hBX, hX⟩ := World.ownsRow.lt hr X rfl
  have I0 := Lib.hid (show TkI w w B X c Bs T ks 0 (.slice none 0 0) from ⟨World.ownsRow_nil _ _ _ _, by simpa using hr, ⟨rfl, rfl, rfl, Nat.le_refl _, fun _ _ _ => rfl⟩⟩)
  have NN := Lib.hid hN
  obtain ⟨n, hn⟩ : ∃ n, n = Bs.length := ⟨_, rfl⟩
  obtain ⟨m, hm⟩ : ∃ m, m = ks.length := ⟨_, rfl⟩
  have HN := Lib.hid hn
  have HM := Lib.hid hm
  have hnI : (n : Int) ≤ 200 := by omega
  have hmI : (m : Int) ≤ 200 := by omega
  rw [← hn, ← hm]
  clear hn hm hN hr hb hk
  go_enter Tryz.func35, Tryz.ntmps35
  go_wp2_with fail
  go_loopw [4, 10] (fun u i wr => ∃ j : Nat, i = .int .i64 j ∧ j ≤ m ∧ Hid (TkI w wr B X c Bs T ks j u) ∧ Hid (takeOk T Bs.length (ks.take j) = true)) (fun _ i wr => m - (intOf i).toNat)
  case atStart => exact ⟨0, rfl, Nat.zero_le _, I0, Lib.hid rfl⟩
  case round =>
    obtain ⟨j, rfl, hj, hI, hT⟩ := hrel
    clear I0
    have hwr : w.heap.size ≤ wr.heap.size := hI.out.gb.size
    obtain ⟨ua, uc, hu⟩ := slice_form hI.out.kids
    subst hu
    by_cases hjm : j < m
    · have jI : (j : Int) < (m : Int) := by omega
      have hjL : j < ks.length := by rw [← HM.out]; exact hjm
      obtain ⟨g0, o, rfl, hg, ck⟩ := (NN.out.below (gb_below hI.out.gb hBX hX)) j hjL
      have ST := Lib.hid (takeOk_stop hjL hT.out)
      have SN := Lib.hid (takeOk_snoc hjL hT.out)
      have PU := Lib.hid (fun (k : Nat) (hk : ks[j] = (k : Int)) (hkn : k < Bs.length) (W4 : World) (g4 cap4 : Nat) => TkI.push (W4 := W4) (g := g4) (cap := cap4) hI.out hX hjL hk hkn)
      have CA := Lib.hid (fun (k : Nat) (hkn : k < Bs.length) => show wr.cell? ⟨X, k, none⟩ = some (pcell Bs (T ++ ks.take j) k) by
        rw [World.ownsRow.cellAt hI.out.row k (by omega), pcells_at hkn])
      have OW := Lib.hid hI.out.kids
      have GB := Lib.hid hI.out.gb
      clear hI
      generalize ks[j] = k at *
      by_cases k0 : k < 0
      · have SF := Lib.hid (ST.out (by rw [decide_eq_false (by omega)]; rfl))
        clear ST SN PU CA
        go_wp2_with fail
        go_ret2
        exact .inr ⟨SF.out, rfl, GB.out⟩
      · by_cases k1 : (n : Int) ≤ k
        · have SF := Lib.hid (ST.out (by rw [decide_eq_false (by have := HN.out; omega)]; rfl))
          clear ST SN PU CA
          go_wp2_with fail
          go_ret2
          exact .inr ⟨SF.out, rfl, GB.out⟩
        · obtain ⟨q, rfl⟩ : ∃ q : Nat, k = (q : Int) := ⟨k.toNat, by omega⟩
          have hqn : q < Bs.length := by have := HN.out; omega
          have ca := CA.out q hqn
          have k2 : (q : Int) < (n : Int) := by omega
          have k3 : (0 : Int) ≤ (q : Int) := by omega
          unfold pcell at ca
          cases hc : (T ++ ks.take j).contains (q : Int)
          · rw [hc, if_neg (by decide)] at ca
            have SK := Lib.hid (show takeOk T Bs.length (ks.take (j + 1)) = true by rw [SN.out, hc, decide_eq_true (by have := HN.out; omega)]; rfl)
            have PQ := Lib.hid (PU.out q rfl hqn)
            clear ST SN CA hc hT PU
            generalize Bs.getD q 0 = G at *
            unfold ptr at ca
            go_wp2_with (at_builtin; refine append_val wr rfl (.tmp 29) (.tmp 34) rfl w.heap.size (.slice ua j uc) j (ptrs Bs (ks.take j)) rfl OW.out (some ⟨G, 0, none⟩) rfl (by omega) hwr ?_; intro g4 cap4 w4 ho4 hg4 hat4; obtain ⟨f1, f2, f3⟩ := PQ.out w4 g4 cap4 ho4 hg4; have F3 := Lib.hid f3; clear ho4 hg4 hat4 f3 PQ OW GB)
            go_roundw
            case rel => exact ⟨j + 1, by go_num, by omega, F3, SK⟩
            case measure => simp [intOf]; omega
          · rw [hc, if_pos rfl] at ca
            have SF := Lib.hid (ST.out (by rw [hc]; simp))
            clear ST SN PU CA hc
            go_wp2_with fail
            go_ret2
            exact .inr ⟨SF.out, rfl, GB.out⟩
    · obtain rfl : j = m := by omega
      have jI : ¬ (j : Int) < (j : Int) := by omega
      have E := Lib.hid (show takeOk T Bs.length ks = true by have := hT.out; rw [List.take_of_length_le (by rw [HM.out]; exact Nat.le_refl _)] at this; exact this)
      have E2 := Lib.hid (show TkI w wr B X c Bs T ks ks.length (.slice ua j uc) by rw [← HM.out]; exact hI.out)
      go_wp2_with fail
      go_ret2
      exact .inl ⟨E.out, _, rfl, E2.out⟩
end Go.Proofs.YtkajadkmdcalmaaGreatDoor
/-
  FOR THE ROWS: conditions and a node that came in.
-/
namespace Go.Proofs.YtkajadkmdcalmaaGreatDoor
open Go.Joins Go.ChangeShapes Go.WideShapes Go.RowKit Go.Deep
theorem ce74 : Tryz.prog.cellsOf 74 = 6 := by kernel_rfl
theorem ce43 : Tryz.prog.cellsOf 43 = 6 := by kernel_rfl
theorem ce40 : Tryz.prog.cellsOf 40 = 1 := by kernel_rfl
theorem ce41 : Tryz.prog.cellsOf 41 = 1 := by kernel_rfl
theorem one43 : oneCellFields Tryz.prog #[{ name := "Op", type := 3, offset := 0, embedded := false, tag := "", pkgPath := "", byteOffset := 0 }, { name := "Kind", type := 9, offset := 1, embedded := false, tag := "", pkgPath := "", byteOffset := 8 }, { name := "Conds", type := 40, offset := 2, embedded := false, tag := "", pkgPath := "", byteOffset := 24 }, { name := "Lo", type := 3, offset := 3, embedded := false, tag := "", pkgPath := "", byteOffset := 48 }, { name := "Hi", type := 3, offset := 4, embedded := false, tag := "", pkgPath := "", byteOffset := 56 }, { name := "Kids", type := 41, offset := 5, embedded := false, tag := "", pkgPath := "", byteOffset := 64 }] = true := by kernel_rfl
theorem open_agg6 {H : Type} {enc : TypeId × Value → H} {P : Program} {w : World} {base : Nat} {spare : Nat → Bool} {held : Bool} {r : Reach} {b0 : Nat} {t : TypeId} {f0 f1 f2 f3 f4 f5 : Field} {v : Value} {d : DataW H} {p : List MemPlace} (hs : P.underlying t = some (.struct #[f0, f1, f2, f3, f4, f5])) (hone : oneCellFields P #[f0, f1, f2, f3, f4, f5] = true) (hC : P.cellsOf t = 6)
    (hv : Value.okWide P w r b0 t v) (h : DataW.Trod enc P w base spare held t v d p) :
    ∃ (v0 v1 v2 v3 v4 v5 : Value) (y0 y1 y2 y3 y4 y5 : DataW H × List MemPlace) (n : Nat), v = .agg #[v0, v1, v2, v3, v4, v5] ∧ d = .agg [y0.1, y1.1, y2.1, y3.1, y4.1, y5.1] ∧ p = y0.2 ++ (y1.2 ++ (y2.2 ++ (y3.2 ++ (y4.2 ++ y5.2)))) ∧
      DataW.trod enc P w base spare held n f0.type [v0] = some y0 ∧ DataW.trod enc P w base spare held n f1.type [v1] = some y1 ∧ DataW.trod enc P w base spare held n f2.type [v2] = some y2 ∧ DataW.trod enc P w base spare held n f3.type [v3] = some y3 ∧ DataW.trod enc P w base spare held n f4.type [v4] = some y4 ∧ DataW.trod enc P w base spare held n f5.type [v5] = some y5 := by
  obtain ⟨cs, rfl, hsz⟩ := okWide_struct hs hv
  obtain ⟨l⟩ := cs
  match l, hsz.trans hC with
  | [c0, c1, c2, c3, c4, c5], _ =>
    obtain ⟨fuel, hf⟩ := h
    obtain ⟨xs, n, _, hx, _, hlen, hg⟩ := DataW.trod_struct hs hf
    obtain ⟨o0, k0⟩ := hone_of hone 0 f0 rfl
    obtain ⟨o1, k1⟩ := hone_of hone 1 f1 rfl
    obtain ⟨o2, k2⟩ := hone_of hone 2 f2 rfl
    obtain ⟨o3, k3⟩ := hone_of hone 3 f3 rfl
    obtain ⟨o4, k4⟩ := hone_of hone 4 f4 rfl
    obtain ⟨o5, k5⟩ := hone_of hone 5 f5 rfl
    match xs, hlen with
    | [y0, y1, y2, y3, y4, y5], _ =>
      simp only [Prod.mk.injEq] at hx
      exact ⟨c0, c1, c2, c3, c4, c5, y0, y1, y2, y3, y4, y5, n, rfl, by simpa using hx.1, by simpa using hx.2, by simpa [Value.cells, o0, k0] using hg 0 f0 rfl, by simpa [Value.cells, o1, k1] using hg 1 f1 rfl, by simpa [Value.cells, o2, k2] using hg 2 f2 rfl, by simpa [Value.cells, o3, k3] using hg 3 f3 rfl, by simpa [Value.cells, o4, k4] using hg 4 f4 rfl, by simpa [Value.cells, o5, k5] using hg 5 f5 rfl⟩
section
variable {H : Type} {enc : TypeId × Value → H} {W : World} {base : Nat}
theorem spot_none {a : Addr} {v : Value} (h : W.cell? (a.add 0) = some v) : a.spot = none := by
  obtain ⟨b, o, s⟩ := a
  cases s with
  | none => rfl
  | some q =>
    exfalso
    have e0 : (⟨b, o, some q⟩ : Addr).add 0 = ⟨b, o, some q⟩ := by simp [Addr.add]
    rw [e0] at h
    have h01 : W.cell? ⟨b, o, some q⟩ = none := by
      unfold World.cell?
      split <;> simp
    rw [h01] at h; simp at h
set_option maxRecDepth 100000 in
theorem open_cnd {b0 n : Nat} {sp : Nat → Bool} {hd : Bool} {a : Addr} {cs : List Value} {y : DataW H × List MemPlace} (h1 : W.cells? b0 a 6 = some cs) (h2 : DataW.trod enc Tryz.prog W b0 sp hd n 74 cs = some y) :
    ∃ x : Cnd, x.v.Wf ∧ W.cell? (a.add 0) = some (.string x.nm) ∧ W.cell? (a.add 1) = some (.int .i64 x.op) ∧ W.cell? (a.add 2) = some (.int .i64 x.v.k) ∧ W.cell? (a.add 3) = some (.int .i64 x.v.n) ∧ W.cell? (a.add 4) = some (.float .f64 x.v.f) ∧ W.cell? (a.add 5) = some (.string x.v.s) ∧ x.v.s.size ∈ y.1.weights Tryz.prog 74 ∧ x.nm.size ∈ y.1.weights Tryz.prog 74 ∧ (-9223372036854775808 ≤ x.op ∧ x.op ≤ 9223372036854775807) := by
  obtain ⟨_, hlen, hcell⟩ := World.cells?_some h1
  obtain ⟨xs, k, hk, hxy, _, hxl, hf⟩ := DataW.trod_struct Tryz.underlying74 h2
  match xs, hxl, cs, hlen with
  | [y0, y1, y2], _, [v0, v1, v2, v3, v4, v5], _ =>
    have g0 := hf 0 _ rfl
    have g1 := hf 1 _ rfl
    have g2 := hf 2 _ rfl
    simp [ce9, ce3, ce47] at g0 g1 g2
    obtain ⟨s0, e0, x0, w0⟩ := DataW.trod_string Tryz.underlying9 g0
    obtain ⟨s1, e1, _, w1⟩ := DataW.trod_int Tryz.underlying3 g1
    obtain ⟨zs, k', hk', hzy, _, hzl, hz⟩ := DataW.trod_struct Tryz.underlying72 g2
    match zs, hzl with
    | [z0, z1, z2, z3], _ =>
      have t0 := hz 0 _ rfl
      have t1 := hz 1 _ rfl
      have t2 := hz 2 _ rfl
      have t3 := hz 3 _ rfl
      simp [ce9, ce3, ce45] at t0 t1 t2 t3
      obtain ⟨k0, q0, _, u0⟩ := DataW.trod_int Tryz.underlying3 t0
      obtain ⟨k1, q1, _, u1⟩ := DataW.trod_int Tryz.underlying3 t1
      obtain ⟨k2, q2, _, u2⟩ := trod_float Tryz.underlying70 t2
      obtain ⟨k3, q3, x3, u3⟩ := DataW.trod_string Tryz.underlying9 t3
      simp only [List.cons.injEq, and_true] at e0 e1 q0 q1 q2 q3
      subst e0 e1 q0 q1 q2 q3
      refine ⟨⟨s0, s1, k0, k1, k2, k3⟩, ⟨wf_i64 u0, (wf_i64 u1).1, (wf_i64 u1).2, wf_f64 u2⟩, ?_, ?_, ?_, ?_, ?_, ?_, ?_, ?_, wf_i64 w1⟩
      · simpa using hcell 0 (by omega)
      · simpa using hcell 1 (by omega)
      · simpa using hcell 2 (by omega)
      · simpa using hcell 3 (by omega)
      · simpa using hcell 4 (by omega)
      · simpa using hcell 5 (by omega)
      · rw [hxy]
        simp only [List.map_cons, List.map_nil, DataW.weights, Tryz.underlying74]
        refine DataW.weights_mem_each (j := 2) (t := 72) (d := y2.1) rfl rfl _ ?_
        rw [hzy]
        simp only [List.map_cons, List.map_nil, DataW.weights, Tryz.underlying72]
        refine DataW.weights_mem_each (j := 3) (t := 9) (d := z3.1) rfl rfl _ ?_
        rw [x3]
        simp only [DataW.weights, List.mem_singleton]
        rw [Array.length_toList]; rfl
      · rw [hxy]
        simp only [List.map_cons, List.map_nil, DataW.weights, Tryz.underlying74]
        refine DataW.weights_mem_each (j := 0) (t := 9) (d := y0.1) rfl rfl _ ?_
        rw [x0]
        simp only [DataW.weights, List.mem_singleton]
        rw [Array.length_toList]; rfl
set_option maxRecDepth 100000 in
theorem open_conds {n : Nat} {v : Value} {y : DataW H × List MemPlace} (h4 : DataW.trod enc Tryz.prog W 0 (fun _ => true) true n 40 [v] = some y) :
    ∃ (q : Option Addr) (cp : Nat) (L : List Cnd), v = .slice q L.length cp ∧ Cnds W q L ∧ L.length ≤ 9223372036854775807 ∧ ∀ x ∈ L, x.v.Wf ∧ x.v.s.size ∈ y.1.weights Tryz.prog 40 ∧ x.nm.size ∈ y.1.weights Tryz.prog 40 ∧ (-9223372036854775808 ≤ x.op ∧ x.op ≤ 9223372036854775807) := by
  rcases Go.Deep.open_slice Tryz.underlying40 h4 with ⟨hcs, hy⟩ | ⟨a, len, cap, m, n', D, Pl, hcs, hb, hl, hm, hmm, hx, hi⟩
  · simp only [List.cons.injEq, and_true] at hcs
    subst hcs
    exact ⟨none, 0, [], rfl, fun i hi => by simp at hi, by simp, fun x hx => by simp at hx⟩
  · simp only [List.cons.injEq, and_true] at hcs
    subst hcs
    have hlm : len ≤ m := by rw [hmm]; split <;> omega
    have hall : ∀ i, i < len → ∃ x : Cnd, x.v.Wf ∧ W.cell? ((a.add (i * 6)).add 0) = some (.string x.nm) ∧ W.cell? ((a.add (i * 6)).add 1) = some (.int .i64 x.op) ∧ W.cell? ((a.add (i * 6)).add 2) = some (.int .i64 x.v.k) ∧ W.cell? ((a.add (i * 6)).add 3) = some (.int .i64 x.v.n) ∧ W.cell? ((a.add (i * 6)).add 4) = some (.float .f64 x.v.f) ∧ W.cell? ((a.add (i * 6)).add 5) = some (.string x.v.s) ∧ x.v.s.size ∈ (D i).weights Tryz.prog 74 ∧ x.nm.size ∈ (D i).weights Tryz.prog 74 ∧ (-9223372036854775808 ≤ x.op ∧ x.op ≤ 9223372036854775807) := fun i hi' => by
      obtain ⟨cs', hc, ht⟩ := hi i (by omega)
      rw [ce74] at hc
      exact open_cnd hc ht
    have hsp : 0 < len → a.spot = none := fun h0 => by
      obtain ⟨x, _, c0, _⟩ := hall 0 h0
      rw [show (a.add (0 * 6)).add 0 = a.add 0 from rfl] at c0
      exact spot_none c0
    obtain ⟨f, hf⟩ : ∃ f : Nat → Cnd, ∀ i, i < len → (f i).v.Wf ∧ W.cell? ((a.add (i * 6)).add 0) = some (.string (f i).nm) ∧ W.cell? ((a.add (i * 6)).add 1) = some (.int .i64 (f i).op) ∧ W.cell? ((a.add (i * 6)).add 2) = some (.int .i64 (f i).v.k) ∧ W.cell? ((a.add (i * 6)).add 3) = some (.int .i64 (f i).v.n) ∧ W.cell? ((a.add (i * 6)).add 4) = some (.float .f64 (f i).v.f) ∧ W.cell? ((a.add (i * 6)).add 5) = some (.string (f i).v.s) ∧ (f i).v.s.size ∈ (D i).weights Tryz.prog 74 ∧ (f i).nm.size ∈ (D i).weights Tryz.prog 74 ∧ (-9223372036854775808 ≤ (f i).op ∧ (f i).op ≤ 9223372036854775807) :=
      ⟨fun i => if h : i < len then Classical.choose (hall i h) else ⟨⟨#[]⟩, 0, 0, 0, 0, ⟨#[]⟩⟩, fun i h => by
        simp only [dif_pos h]
        exact Classical.choose_spec (hall i h)⟩
    have e1 : ((List.range len).map f).length = len := by rw [List.length_map, List.length_range]
    refine ⟨some a, cap, (List.range len).map f, by rw [e1], ?_, by rw [e1]; unfold maxLen at hm; omega, fun x hx' => ?_⟩
    · intro i hi'
      have hil : i < len := by rw [e1] at hi'; exact hi'
      have hs := (hf i hil).2
      have eg : ((List.range len).map f)[i] = f i := by rw [List.getElem_map, List.getElem_range]
      rw [eg]
      have hsn := hsp (by omega)
      clear hf hall hsp hi hmm
      obtain ⟨b, o, s⟩ := a
      simp only at hsn
      subst hsn
      simp only [add_at, Nat.add_zero] at hs
      exact ⟨b, o, rfl, World.block_lt_of_cell? _ _ hs.1, hs.1, hs.2.1, hs.2.2.1, hs.2.2.2.1, hs.2.2.2.2.1, hs.2.2.2.2.2.1⟩
    · obtain ⟨i, hi', rfl⟩ := List.mem_map.1 hx'
      have hil := List.mem_range.1 hi'
      have F := hf i hil
      have up : ∀ q, q ∈ (D i).weights Tryz.prog 74 → q ∈ y.1.weights Tryz.prog 40 := fun q hq => by
        rw [hx]
        simp only [DataW.weights, Tryz.underlying40]
        refine List.mem_cons_of_mem _ (List.mem_append.2 (.inl ?_))
        exact weightsAll_mem (List.mem_map.2 ⟨i, hi', rfl⟩) hq
      exact ⟨F.1, up _ F.2.2.2.2.2.2.2.1, up _ F.2.2.2.2.2.2.2.2.1, F.2.2.2.2.2.2.2.2.2⟩
theorem open_kids {n : Nat} {v : Value} {y : DataW H × List MemPlace} (h4 : DataW.trod enc Tryz.prog W 0 (fun _ => true) true n 41 [v] = some y) :
    ∃ (q : Option Addr) (cp : Nat) (L : List Int), v = .slice q L.length cp ∧ Nums W W.heap.size q L ∧ L.length ≤ 9223372036854775807 ∧ ∀ x ∈ L, -9223372036854775808 ≤ x ∧ x ≤ 9223372036854775807 := by
  rcases Go.Deep.open_slice Tryz.underlying41 h4 with ⟨hcs, hy⟩ | ⟨a, len, cap, m, n', D, Pl, hcs, hb, hl, hm, hmm, hx, hi⟩
  · simp only [List.cons.injEq, and_true] at hcs
    subst hcs
    exact ⟨none, 0, [], rfl, fun i hi => by simp at hi, by simp, fun x hx => by simp at hx⟩
  · simp only [List.cons.injEq, and_true] at hcs
    subst hcs
    have hlm : len ≤ m := by rw [hmm]; split <;> omega
    have hall : ∀ i, i < len → ∃ x : Int, W.cell? ((a.add (i * 1)).add 0) = some (.int .i64 x) ∧ (-9223372036854775808 ≤ x ∧ x ≤ 9223372036854775807) := fun i hi' => by
      obtain ⟨cs', hc, ht⟩ := hi i (by omega)
      rw [ce3] at hc
      obtain ⟨_, hlen, hcell⟩ := World.cells?_some hc
      obtain ⟨k0, e0, _, w0⟩ := DataW.trod_int Tryz.underlying3 ht
      subst e0
      exact ⟨k0, by simpa using hcell 0 (by omega), wf_i64 w0⟩
    have hsp : 0 < len → a.spot = none := fun h0 => by
      obtain ⟨x, c0, _⟩ := hall 0 h0
      rw [show (a.add (0 * 1)).add 0 = a.add 0 from rfl] at c0
      exact spot_none c0
    obtain ⟨f, hf⟩ : ∃ f : Nat → Int, ∀ i, i < len → W.cell? ((a.add (i * 1)).add 0) = some (.int .i64 (f i)) ∧ (-9223372036854775808 ≤ f i ∧ f i ≤ 9223372036854775807) :=
      ⟨fun i => if h : i < len then Classical.choose (hall i h) else 0, fun i h => by
        simp only [dif_pos h]
        exact Classical.choose_spec (hall i h)⟩
    have e1 : ((List.range len).map f).length = len := by rw [List.length_map, List.length_range]
    refine ⟨some a, cap, (List.range len).map f, by rw [e1], ?_, by rw [e1]; unfold maxLen at hm; omega, fun x hx' => ?_⟩
    · intro i hi'
      have hil : i < len := by rw [e1] at hi'; exact hi'
      have hs := (hf i hil).1
      have eg : ((List.range len).map f)[i] = f i := by rw [List.getElem_map, List.getElem_range]
      rw [eg]
      have hsn := hsp (by omega)
      clear hf hall hsp hi hmm
      obtain ⟨b, o, s⟩ := a
      simp only at hsn
      subst hsn
      simp only [add_at, Nat.add_zero, Nat.mul_one] at hs
      exact ⟨b, o, rfl, World.block_lt_of_cell? _ _ hs, hs⟩
    · obtain ⟨i, hi', rfl⟩ := List.mem_map.1 hx'
      exact (hf i (List.mem_range.1 hi')).2
set_option maxRecDepth 100000 in
theorem open_node {v : Value} {d : DataW H} {p : List MemPlace} (hv : Value.okWide Tryz.prog W .any base 43 v) (h : DataW.Trod enc Tryz.prog W 0 (fun _ => true) true 43 v d p) :
    ∃ (op lo hi : Int) (kd : ByteArray) (ca : Option Addr) (cc : Nat) (cs : List Cnd) (ka : Option Addr) (kl kc : Nat), v = .agg #[.int .i64 op, .string kd, .slice ca cs.length cc, .int .i64 lo, .int .i64 hi, .slice ka kl kc] ∧ Cnds W ca cs ∧ cs.length ≤ 9223372036854775807 ∧ (∀ x ∈ cs, x.v.Wf) := by
  obtain ⟨v0, v1, v2, v3, v4, v5, y0, y1, y2, y3, y4, y5, n, rfl, hd, _, h0, h1, h2, h3, h4, h5⟩ := open_agg6 Tryz.underlying43 one43 ce43 hv h
  obtain ⟨k0, e0, _, w0⟩ := DataW.trod_int Tryz.underlying3 h0
  obtain ⟨s1, e1, _, w1⟩ := DataW.trod_string Tryz.underlying9 h1
  obtain ⟨q, cp, L, e2, hc, hl, hw⟩ := open_conds h2
  obtain ⟨k3, e3, _, w3⟩ := DataW.trod_int Tryz.underlying3 h3
  obtain ⟨k4, e4, _, w4⟩ := DataW.trod_int Tryz.underlying3 h4
  obtain ⟨q5, cp5, L5, e5, -, -, -⟩ := open_kids h5
  simp only [List.cons.injEq, and_true] at e0 e1 e3 e4
  subst e0 e1 e2 e3 e4 e5
  exact ⟨k0, k3, k4, s1, q, cp, L, q5, _, cp5, rfl, hc, hl, fun x hx => (hw x hx).1⟩
end
end Go.Proofs.YtkajadkmdcalmaaGreatDoor
