/-
  WHAT THE ROWS REST ON, part 6: Shf Cam Trf Tgn Dtl Dtm Dtr Dad Tdb.
-/
import Derived.Test.YtbghjcfepjbppaaPart5
/-
  A TELLER's first event waits no more: shift.
-/
namespace Go.Proofs.Ytbghjcfepjbppaa
open Go.RowKit
/-- what shift leaves -/
def ShR (w : World) (t B : Nat) (nodes to id sq : Int) (wv : Value) (n : Nat) (cs : List Value) (rv : Value) (ev : Value) (e : Ending) (w' : World) : Prop :=
  e = .returned ev ∧ ∃ a c, Blk w' t 98 (tel nodes to id sq (.slice a n c) rv) ∧ w'.ownsRow B 31 5 (.slice a n c) n cs ∧ (Value.slice a n c).ownBlock = wv.ownBlock ∧ Fr w w' (fun q => q = t ∨ wv.ownBlock = some q)
set_option maxHeartbeats 4000000 in
set_option maxRecDepth 100000 in
theorem shift_any {w : World} {t B : Nat} {nodes to id sq : Int} {ua : Option Addr} {uc n : Nat} {cs : List Value} {rv : Value} {a b c : Int} {k : ByteArray} {p : Option Addr} {m cp : Nat}
    (T : Blk w t 98 (tel nodes to id sq (.slice ua (n + 1) uc) rv)) (hB : t < B) (ho : w.ownsRow B 31 5 (.slice ua (n + 1) uc) (n + 1) (encE a b c k (.slice p m cp) ++ cs)) (hl : n + 1 ≤ 1000) (h1 : ∀ u ∈ cs, u.oneCell' = true) :
    Calls Try.prog 46 #[.pointer (some ⟨t, 0, none⟩)] w (ShR w t B nodes to id sq (.slice ua (n + 1) uc) n cs rv (evV a b c k (.slice p m cp))) := by
  have hlt := T.lt
  obtain ⟨g, cap, cur, e, hBg, hg, hnc, hcm, hcs, hct⟩ : ∃ g cap cur, Value.slice ua (n + 1) uc = .slice (some ⟨g, 0, none⟩) (n + 1) cap ∧ B ≤ g ∧ w.heap[g]? = some (.cells cur 31 (0, 0)) ∧ n + 1 ≤ cap ∧ cap ≤ maxLen ∧ cur.size = cap * 5 ∧ cur.toList.take ((n + 1) * 5) = encE a b c k (.slice p m cp) ++ cs := by
    rcases ho.2 with ⟨_, h'⟩ | ⟨g', cap', cur, h'⟩
    · omega
    · exact ⟨g', cap', cur, h'⟩
  cases e
  have G : Blk w g 31 cur := hg
  have q : ∀ i, i < 5 → cur[i]? = (encE a b c k (.slice p m cp))[i]? := fun i hi => by
    rw [← Array.getElem?_toList, show (encE a b c k (.slice p m cp))[i]? = (encE a b c k (.slice p m cp) ++ cs)[i]? from (List.getElem?_append_left (by show i < 5; exact hi)).symm, ← hct, List.getElem?_take, if_pos (by omega)]
  have hgl := G.lt
  have HD := Lib.hid (fun (W : World) (h : W.ownsRow B 31 5 (.slice (some ⟨g, 0, none⟩) (n + 1) uc) (n + 1) (encE a b c k (.slice p m cp) ++ cs)) => delete_first h hl (fun u hu => by
    rcases List.mem_append.1 hu with h | h
    · exact one_encE a b c k p m cp u h
    · exact h1 u h))
  obtain ⟨X, hX, BX, K0, K1, sX⟩ : ∃ X, X = (w.alloc (.cells #[.int .i64 0, .int .i64 0, .int .i64 0, .string ⟨#[]⟩, .slice none 0 0] 31)).alloc (.cells #[.int .i64 a, .int .i64 b, .int .i64 c, .string k, .slice p m cp] 31) ∧ Below w.heap.size w X ∧ Blk X w.heap.size 31 #[.int .i64 0, .int .i64 0, .int .i64 0, .string ⟨#[]⟩, .slice none 0 0] ∧ Blk X (w.heap.size + 1) 31 #[.int .i64 a, .int .i64 b, .int .i64 c, .string k, .slice p m cp] ∧ X.heap.size = w.heap.size + 1 + 1 :=
    ⟨_, rfl, ((Below.refl w.heap.size w).alloc (Nat.le_refl _) _).alloc (by simp) _, (Blk.new w 31 _).below ((Below.refl _ _).alloc (Nat.le_refl _) _), by have := Blk.new (w.alloc (.cells #[.int .i64 0, .int .i64 0, .int .i64 0, .string ⟨#[]⟩, .slice none 0 0] 31)) 31 #[.int .i64 a, .int .i64 b, .int .i64 c, .string k, .slice p m cp]; simpa using this, by simp⟩
  have HX := Lib.hid hX
  have c4 : w.cell? ⟨t, 4, none⟩ = some (.slice (some ⟨g, 0, none⟩) (n + 1) uc) := T.cell 4
  have r0 : w.cell? ⟨g, 0, none⟩ = some (.int .i64 a) := by rw [G.cell]; exact q 0 (by decide)
  have r1 : w.cell? ⟨g, 1, none⟩ = some (.int .i64 b) := by rw [G.cell]; exact q 1 (by decide)
  have r2 : w.cell? ⟨g, 2, none⟩ = some (.int .i64 c) := by rw [G.cell]; exact q 2 (by decide)
  have r3 : w.cell? ⟨g, 3, none⟩ = some (.string k) := by rw [G.cell]; exact q 3 (by decide)
  have r4 : w.cell? ⟨g, 4, none⟩ = some (.slice p m cp) := by rw [G.cell]; exact q 4 (by decide)
  have OX : X.ownsRow B 31 5 (.slice (some ⟨g, 0, none⟩) (n + 1) uc) (n + 1) (encE a b c k (.slice p m cp) ++ cs) := Fr.own ho (Fr.of_below BX (fun _ => False)) (fun _ _ h => h)
  have TX := T.at_ BX hlt
  have x4 : X.cell? ⟨t, 4, none⟩ = some (.slice (some ⟨g, 0, none⟩) (n + 1) uc) := TX.cell 4
  have dro : (encE a b c k (.slice p m cp) ++ cs).drop 5 = cs := rfl
  have D := Lib.hid (HD.out X OX)
  rw [dro] at D
  have K0h := Lib.hid K0
  have K1h := Lib.hid K1
  have TXh := Lib.hid TX
  have hgX : g < w.heap.size := hgl
  have END : Hid (∀ (w2 : World) (a' : Option Addr) (c' : Nat), w2.ownsRow B 31 5 (.slice a' n c') n cs → Fr X w2 (fun q => q = g) → (Value.slice a' n c').ownBlock = some g →
      ShR w t B nodes to id sq (.slice (some ⟨g, 0, none⟩) (n + 1) uc) n cs rv (evV a b c k (.slice p m cp)) (.returned (evV a b c k (.slice p m cp)))
        ((((((w2.setCell ⟨t, 4, none⟩ (.slice a' n c')).setCell ⟨w.heap.size, 0, none⟩ (.int .i64 a)).setCell ⟨w.heap.size, 1, none⟩ (.int .i64 b)).setCell ⟨w.heap.size, 2, none⟩ (.int .i64 c)).setCell ⟨w.heap.size, 3, none⟩ (.string k)).setCell ⟨w.heap.size, 4, none⟩ (.slice p m cp))) := Lib.hid (by
    intro w2 a' c' o2 f2 hob
    have T2 := (TX.fr f2 (by omega)).set 4 (.slice a' n c')
    have f3 : Fr w w2 (fun q => q = t ∨ q = g) := (Fr.of_below BX _).trans (Q := fun q => q = g) f2 (fun _ _ h => h) (fun _ _ h => .inr h)
    have f4 := (((((f3.set t 4 (.slice a' n c') (.inl (.inl rfl))).set w.heap.size 0 (.int .i64 a) (.inr (Nat.le_refl _))).set w.heap.size 1 (.int .i64 b) (.inr (Nat.le_refl _))).set w.heap.size 2 (.int .i64 c) (.inr (Nat.le_refl _))).set w.heap.size 3 (.string k) (.inr (Nat.le_refl _))).set w.heap.size 4 (.slice p m cp) (.inr (Nat.le_refl _))
    have s5 : ∀ (V : World), Fr V (((((V.setCell ⟨w.heap.size, 0, none⟩ (.int .i64 a)).setCell ⟨w.heap.size, 1, none⟩ (.int .i64 b)).setCell ⟨w.heap.size, 2, none⟩ (.int .i64 c)).setCell ⟨w.heap.size, 3, none⟩ (.string k)).setCell ⟨w.heap.size, 4, none⟩ (.slice p m cp)) (fun q => q = w.heap.size) := fun V =>
      (((((Fr.refl V (fun q => q = w.heap.size)).set w.heap.size 0 (.int .i64 a) (.inl rfl)).set w.heap.size 1 (.int .i64 b) (.inl rfl)).set w.heap.size 2 (.int .i64 c) (.inl rfl)).set w.heap.size 3 (.string k) (.inl rfl)).set w.heap.size 4 (.slice p m cp) (.inl rfl)
    have o3 : (w2.setCell ⟨t, 4, none⟩ (.slice a' n c')).ownsRow B 31 5 (.slice a' n c') n cs := ownsRow_setCell_other o2 (fun e => by have := (World.ownsRow.lt o2 t (by first | exact e | exact e.symm)).1; omega) _
    refine ⟨rfl, a', c', T2.fr (s5 _) (by omega), Fr.own o3 (s5 _) (fun q e => by rw [hob] at e; cases e; omega), hob.trans rfl, f4.mono (fun q _ h => ?_)⟩
    rcases h with h | h
    · exact .inl h
    · exact .inr (by subst h; rfl))
  clear OX HD G q hg hct hcs T TX K0 K1 hX ho BX
  generalize hQ : ShR w t B nodes to id sq (.slice (some ⟨g, 0, none⟩) (n + 1) uc) n cs rv (evV a b c k (.slice p m cp)) = Q at *
  unfold evV at *
  clear hQ
  go_enter Try.func46, Try.ntmps46
  go_wp2_with fail
  rw [← HX.out]
  refine D.out.mono ?_
  rintro e w2 ⟨v', rfl, o2, f2, hob, a', c', rfl⟩
  have f2' : Fr X w2 (fun q => q = g) := f2.mono (fun q _ h => by cases h; rfl)
  have hob' : (Value.slice a' n c').ownBlock = some g := hob
  have T2 := TXh.out.fr f2' (by omega)
  have K02 := K0h.out.fr f2' (by omega)
  have K12 := K1h.out.fr f2' (by omega)
  have FI := Lib.hid (END.out w2 a' c' o2 f2' hob')
  have c4 : w2.cell? ⟨t, 4, none⟩ = some (.slice (some ⟨g, 0, none⟩) (n + 1) uc) := T2.cell 4
  have ft : ∀ i, w2.frozen? ⟨t, i, none⟩ = false := T2.free
  have z0 : w2.cell? ⟨w.heap.size, 0, none⟩ = some (.int .i64 0) := K02.cell 0
  have z1 : w2.cell? ⟨w.heap.size, 1, none⟩ = some (.int .i64 0) := K02.cell 1
  have z2 : w2.cell? ⟨w.heap.size, 2, none⟩ = some (.int .i64 0) := K02.cell 2
  have z3 : w2.cell? ⟨w.heap.size, 3, none⟩ = some (.string ⟨#[]⟩) := K02.cell 3
  have z4 : w2.cell? ⟨w.heap.size, 4, none⟩ = some (.slice none 0 0) := K02.cell 4
  have fz : ∀ i, w2.frozen? ⟨w.heap.size, i, none⟩ = false := K02.free
  have y0 : w2.cell? ⟨w.heap.size + 1, 0, none⟩ = some (.int .i64 a) := K12.cell 0
  have y1 : w2.cell? ⟨w.heap.size + 1, 1, none⟩ = some (.int .i64 b) := K12.cell 1
  have y2 : w2.cell? ⟨w.heap.size + 1, 2, none⟩ = some (.int .i64 c) := K12.cell 2
  have y3 : w2.cell? ⟨w.heap.size + 1, 3, none⟩ = some (.string k) := K12.cell 3
  have y4 : w2.cell? ⟨w.heap.size + 1, 4, none⟩ = some (.slice p m cp) := K12.cell 4
  have n1 : ¬ (t = w.heap.size) := by omega
  have n2 : ¬ (t = w.heap.size + 1) := by omega
  clear o2 f2 hob f2' hob' T2 K02 K12 END D TXh K0h K1h HX r0 r1 r2 r3 r4 x4
  go_wp2_with fail
  refine bodyPost_ret (by simp [results, Try.results46, go_sem, z0, z1, z2, z3, z4]; try rfl) rfl ?_
  exact FI.out
end Go.Proofs.Ytbghjcfepjbppaa
/-
  WHAT CAME, in every case; the one that leads is asked.
-/
namespace Go.Proofs.Ytbghjcfepjbppaa
open Go.RowKit
theorem came_no {w : World} {t : Nat} {nodes to sq m : Int} {wv rv : Value} (T : Blk w t 98 (tel nodes to 0 sq wv rv)) (hm : ¬ (1 ≤ m ∧ m ≤ 549755813888)) :
    Calls Try.prog 44 #[.pointer (some ⟨t, 0, none⟩), .int .i64 m] w fun e w' => e = .returned (.tuple #[]) ∧ w' = w := by
  have OP := Lib.hid (open_any T)
  clear T
  by_cases h1 : 1 ≤ m
  · have h2 : ¬ (m ≤ 549755813888) := fun h => hm ⟨h1, h⟩
    clear hm
    go_enter Try.func44, Try.ntmps44
    go_wp2_with fail
    refine OP.out.mono ?_
    rintro e w1 ⟨rfl, rfl⟩
    go_wp2_with fail
    go_end0
    exact ⟨rfl, rfl⟩
  · clear hm
    go_enter Try.func44, Try.ntmps44
    go_wp2_with fail
    refine OP.out.mono ?_
    rintro e w1 ⟨rfl, rfl⟩
    go_wp2_with fail
    go_end0
    exact ⟨rfl, rfl⟩
theorem came_old {w : World} {t : Nat} {nodes to id sq m : Int} {wv rv : Value} (T : Blk w t 98 (tel nodes to id sq wv rv)) (hid : id ≠ 0) (hsq : -9223372036854775808 ≤ sq + 1 ∧ sq + 1 ≤ 9223372036854775807) (hm : m ≠ sq + 1) :
    Calls Try.prog 44 #[.pointer (some ⟨t, 0, none⟩), .int .i64 m] w fun e w' => e = .returned (.tuple #[]) ∧ w' = w := by
  have OP := Lib.hid (open_any T)
  have c3 : w.cell? ⟨t, 3, none⟩ = some (.int .i64 sq) := T.cell 3
  have hw : IntKind.i64.wrap (sq + 1) = sq + 1 := by rw [IntKind.wrap_i64]; omega
  have hi : (id != 0) = true := bne_iff_ne.2 hid
  have hx : (m == sq + 1) = false := beq_eq_false_iff_ne.2 hm
  clear T
  go_enter Try.func44, Try.ntmps44
  go_wp2_with fail
  refine OP.out.mono ?_
  rintro e w1 ⟨rfl, rfl⟩
  go_wp2_with fail
  go_end0
  exact ⟨rfl, rfl⟩
theorem came_next {w : World} {t B : Nat} {nodes to id sq : Int} {ua : Option Addr} {uc n : Nat} {cs : List Value} {rv : Value} {a b c : Int} {k : ByteArray} {p : Option Addr} {l cp : Nat}
    (T : Blk w t 98 (tel nodes to id sq (.slice ua (n + 1) uc) rv)) (hid : id ≠ 0) (hsq : -9223372036854775808 ≤ sq + 1 ∧ sq + 1 ≤ 9223372036854775807) (hB : t < B) (ho : w.ownsRow B 31 5 (.slice ua (n + 1) uc) (n + 1) (encE a b c k (.slice p l cp) ++ cs)) (hl : n + 1 ≤ 1000) (h1 : ∀ u ∈ cs, u.oneCell' = true) :
    Calls Try.prog 44 #[.pointer (some ⟨t, 0, none⟩), .int .i64 (sq + 1)] w fun e w' => e = .returned (.tuple #[]) ∧ ShR w t B nodes to id (sq + 1) (.slice ua (n + 1) uc) n cs rv (evV a b c k (.slice p l cp)) (.returned (evV a b c k (.slice p l cp))) w' := by
  have OP := Lib.hid (open_any T)
  have c3 : w.cell? ⟨t, 3, none⟩ = some (.int .i64 sq) := T.cell 3
  have fz : ∀ i, w.frozen? ⟨t, i, none⟩ = false := T.free
  have hw : IntKind.i64.wrap (sq + 1) = sq + 1 := by rw [IntKind.wrap_i64]; omega
  have hi : (id != 0) = true := bne_iff_ne.2 hid
  have hx : ((sq + 1) == (sq + 1)) = true := beq_self_eq_true _
  have SH := Lib.hid (shift_any (T.set 3 (.int .i64 (sq + 1))) hB (ownsRow_setCell_other ho (fun e => by have := (World.ownsRow.lt ho t (by first | exact e | exact e.symm)).1; omega) _) hl h1)
  have FS := Lib.hid (fr_set w t 3 (.int .i64 (sq + 1)))
  clear T ho
  go_enter Try.func44, Try.ntmps44
  go_wp2_with fail
  refine OP.out.mono ?_
  rintro e w1 ⟨rfl, rfl⟩
  go_wp2_with fail
  refine SH.out.mono ?_
  rintro e w2 ⟨rfl, a', c', T2, o2, hob, f2⟩
  have FI : Hid _ := Lib.hid (show ShR w t B nodes to id (sq + 1) (.slice ua (n + 1) uc) n cs rv (evV a b c k (.slice p l cp)) (.returned (evV a b c k (.slice p l cp))) w2 from ⟨rfl, a', c', T2, o2, hob, FS.out.trans f2 (fun q _ h => .inl h) (fun q _ h => h)⟩)
  clear T2 o2 hob f2 SH FS
  go_wp2_with fail
  go_end0
  exact ⟨rfl, FI.out⟩
set_option maxHeartbeats 1000000 in
theorem turn_to {w : World} {t : Nat} {ty : TypeId} {cs : Array Value} {nodes to lead : Int} (T : Blk w t ty cs) (h0 : cs[0]? = some (.int .i64 nodes)) (h1 : cs[1]? = some (.int .i64 to)) (hl : 0 ≤ lead ∧ lead < nodes) :
    Calls Try.prog 47 #[.pointer (some ⟨t, 0, none⟩), .int .i64 lead] w fun e w' => e = .returned (.tuple #[]) ∧ Blk w' t ty (cs.setIfInBounds 1 (.int .i64 lead)) ∧ Fr w w' (fun q => q = t) := by
  have c0 : w.cell? ⟨t, 0, none⟩ = some (.int .i64 nodes) := by rw [T.cell]; exact h0
  have c1 : w.cell? ⟨t, 1, none⟩ = some (.int .i64 to) := by rw [T.cell]; exact h1
  have fz : ∀ i, w.frozen? ⟨t, i, none⟩ = false := T.free
  have FIN := Lib.hid (And.intro (T.set 1 (.int .i64 lead)) (fr_set w t 1 (.int .i64 lead)))
  have g1 : ¬ (lead < 0) := by omega
  have g2 : ¬ (nodes ≤ lead) := by omega
  clear T h0 h1
  go_enter Try.func47, Try.ntmps47
  go_wp2_with fail
  go_end0
  exact ⟨rfl, FIN.out⟩
set_option maxHeartbeats 1000000 in
theorem turn_off {w : World} {t : Nat} {ty : TypeId} {cs : Array Value} {nodes to lead : Int} (T : Blk w t ty cs) (h0 : cs[0]? = some (.int .i64 nodes)) (h1 : cs[1]? = some (.int .i64 to)) (ht : 0 ≤ to ∧ to ≤ 100) (hn : nodes ≤ 100) (hl : ¬ (0 ≤ lead ∧ lead < nodes)) :
    Calls Try.prog 47 #[.pointer (some ⟨t, 0, none⟩), .int .i64 lead] w fun e w' => e = .returned (.tuple #[]) ∧ Blk w' t ty (cs.setIfInBounds 1 (.int .i64 (nextN to nodes))) ∧ Fr w w' (fun q => q = t) := by
  have c0 : w.cell? ⟨t, 0, none⟩ = some (.int .i64 nodes) := by rw [T.cell]; exact h0
  have NX := Lib.hid (next_any T h0 h1 ht hn)
  by_cases g1 : lead < 0
  · clear T h0 h1 hl
    go_enter Try.func47, Try.ntmps47
    go_wp2_with fail
    refine NX.out.mono ?_
    rintro e w1 ⟨rfl, T1, f1⟩
    have T1 := Lib.hid T1
    have f1 := Lib.hid f1
    go_wp2_with fail
    refine bodyPost_ret (results_none rfl _ _ _) rfl ?_
    exact ⟨rfl, T1.out, f1.out⟩
  · have g2 : nodes ≤ lead := by omega
    clear T h0 h1 hl
    go_enter Try.func47, Try.ntmps47
    go_wp2_with fail
    refine NX.out.mono ?_
    rintro e w1 ⟨rfl, T1, f1⟩
    have T1 := Lib.hid T1
    have f1 := Lib.hid f1
    go_wp2_with fail
    refine bodyPost_ret (results_none rfl _ _ _) rfl ?_
    exact ⟨rfl, T1.out, f1.out⟩
end Go.Proofs.Ytbghjcfepjbppaa
/-
  A TELLER IS TOLD: the first event is refused.
-/
namespace Go.Proofs.Ytbghjcfepjbppaa
open Go.RowKit
/-- what a refusal leaves -/
def RfR (w : World) (t B : Nat) (nodes to id sq : Int) (wv rv : Value) (n rn : Nat) (cs rs : List Value) (e5 : List Value) (e : Ending) (w' : World) : Prop :=
  e = .returned (.tuple #[]) ∧ ∃ a c g cap, Blk w' t 98 (tel nodes to id sq (.slice a n c) (.slice (some ⟨g, 0, none⟩) (rn + 1) cap)) ∧ w'.ownsRow B 31 5 (.slice a n c) n cs ∧ (Value.slice a n c).ownBlock = wv.ownBlock ∧
    w'.ownsRow B 31 5 (.slice (some ⟨g, 0, none⟩) (rn + 1) cap) (rn + 1) (rs ++ e5) ∧ (rv.ownBlock = some g ∨ w.heap.size ≤ g) ∧ Fr w w' (fun q => q = t ∨ wv.ownBlock = some q ∨ rv.ownBlock = some q)
theorem refuse_end {w v w4 : World} {t B : Nat} {nodes to id sq : Int} {wv rv : Value} {n rn : Nat} {cs rs : List Value} {a b c : Int} {k : ByteArray} {f : Value} {g cap : Nat} {ev : Value} {H : Nat} (o : Obj)
    (hB : t < B) (hne : ∀ q, rv.ownBlock = some q → wv.ownBlock ≠ some q) (hr : ∀ q, rv.ownBlock = some q → B ≤ q ∧ q < w.heap.size)
    (sh : ShR w t B nodes to id sq wv n cs rv ev (.returned ev) v)
    (ho : w4.ownsRow B 31 5 (.slice (some ⟨g, 0, none⟩) (rn + 1) cap) (rn + 1) (rs ++ encE a b c k f)) (hg : (v.alloc o).grownBy w4 rv.ownBlock) (hat : rv.ownBlock = some g ∨ g = H) (hH : w.heap.size ≤ H) :
    RfR w t B nodes to id sq wv rv n rn cs rs (encE a b c k f) (.returned (.tuple #[])) (w4.setCell ⟨t, 5, none⟩ (.slice (some ⟨g, 0, none⟩) (rn + 1) cap)) ∧ w4.frozen? ⟨t, 5, none⟩ = false ∧ w4.cell? ⟨t, 5, none⟩ = some rv := by
  obtain ⟨_, a', c', T, ow, hob, f2⟩ := sh
  have f3 : Fr v w4 (fun q => rv.ownBlock = some q) := ((Fr.refl v _).al o).on ((Fr.of_grown hg).mono (fun q _ h => h.symm))
  have T4 : Blk w4 t 98 (tel nodes to id sq (.slice a' n c') rv) := T.fr f3 (fun e => by have := (hr _ e).1; omega)
  have hgB : B ≤ g := (World.ownsRow.lt ho g rfl).1
  refine ⟨⟨rfl, a', c', g, cap, T4.set 5 _, ?_, hob, ?_, ?_, ?_⟩, T4.free 5, by rw [T4.cell]; rfl⟩
  · have o4 : w4.ownsRow B 31 5 (.slice a' n c') n cs := Fr.own ow f3 (fun q h e => hne q e (hob.symm.trans h))
    exact ownsRow_setCell_other o4 (fun e => by have := (World.ownsRow.lt o4 t (by first | exact e | exact e.symm)).1; omega) _
  · exact ownsRow_setCell_other ho (by simp [Value.ownBlock]; omega) _
  · rcases hat with h | h
    · exact .inl h
    · exact .inr (by omega)
  · exact ((f2.trans f3 (R := fun q => q = t ∨ wv.ownBlock = some q ∨ rv.ownBlock = some q) (fun q _ h => h.elim .inl (fun h => .inr (.inl h))) (fun q _ h => .inr (.inr h))).set t 5 _ (.inl (.inl rfl)))
set_option maxHeartbeats 4000000 in
set_option maxRecDepth 100000 in
theorem told_refuse {w : World} {t B : Nat} {nodes to id sq m lead : Int} {ua ra : Option Addr} {uc rc n rn : Nat} {cs rs : List Value} {a b c : Int} {k : ByteArray} {p : Option Addr} {l cp : Nat}
    (T : Blk w t 98 (tel nodes to id sq (.slice ua (n + 1) uc) (.slice ra rn rc))) (hid : id ≠ 0) (hB : t < B) (hBw : B ≤ w.heap.size) (ho : w.ownsRow B 31 5 (.slice ua (n + 1) uc) (n + 1) (encE a b c k (.slice p l cp) ++ cs)) (hl : n + 1 ≤ 1000) (h1 : ∀ u ∈ cs, u.oneCell' = true)
    (hr : w.ownsRow B 31 5 (.slice ra rn rc) rn rs) (hrn : rn ≤ 1000) (hne : ∀ q, (Value.slice ra rn rc).ownBlock = some q → (Value.slice ua (n + 1) uc).ownBlock ≠ some q) :
    Calls Try.prog 13 #[.pointer (some ⟨t, 0, none⟩), .agg #[.int .i64 130, .int .i64 m], .int .i64 lead] w
      (RfR w t B nodes to id sq (.slice ua (n + 1) uc) (.slice ra rn rc) n rn cs rs (encE a b c k (.slice p l cp))) := by
  obtain ⟨i31, hi, hz0, hz1, hz2⟩ := info_parts info31
  obtain ⟨X, hX, BX, sX⟩ : ∃ X, X = w.alloc (.cells #[.int .i64 130, .int .i64 m] 34) ∧ Below w.heap.size w X ∧ X.heap.size = w.heap.size + 1 := ⟨_, rfl, (Below.refl w.heap.size w).alloc (Nat.le_refl _) _, by simp⟩
  have HX := Lib.hid hX
  have hlt := T.lt
  have TX := T.at_ BX hlt
  have TXd : Blk X.drew t 98 (tel nodes to id sq (.slice ua (n + 1) uc) (.slice ra rn rc)) := TX
  have oX : X.ownsRow B 31 5 (.slice ua (n + 1) uc) (n + 1) (encE a b c k (.slice p l cp) ++ cs) := Fr.own ho (Fr.of_below BX (fun _ => False)) (fun _ _ h => h)
  have rX : X.ownsRow B 31 5 (.slice ra rn rc) rn rs := Fr.own hr (Fr.of_below BX (fun _ => False)) (fun _ _ h => h)
  have LF := Lib.hid (left_any TX)
  have OP := Lib.hid (open_any TX)
  have KX : Blk X w.heap.size 34 #[.int .i64 130, .int .i64 m] := by rw [hX]; exact Blk.new w 34 _
  have k0 : X.cell? ⟨w.heap.size, 0, none⟩ = some (.int .i64 130) := KX.cell 0
  have hn1 : (((n + 1 : Nat) : Int) == 0) = false := by rw [beq_eq_false_iff_ne]; omega
  have hi0 : (id != 0) = true := bne_iff_ne.2 hid
  have hrX : ∀ q, (Value.slice ra rn rc).ownBlock = some q → B ≤ q ∧ q < X.heap.size := fun q hq => World.ownsRow.lt rX q hq
  have hBX : B ≤ X.heap.size := by omega
  have SH := Lib.hid (shift_any TXd hB (w := X.drew) (Fr.own oX (fr_drew X (fun _ => False)) (fun _ _ h => h)) hl h1)
  have END := Lib.hid (fun (v w4 : World) (g cap H : Nat) (o : Obj) (hH : X.heap.size ≤ H) (sh : ShR X.drew t B nodes to id sq (.slice ua (n + 1) uc) n cs (.slice ra rn rc) (evV a b c k (.slice p l cp)) (.returned (evV a b c k (.slice p l cp))) v) ho' hg hat =>
    refuse_end (w := X.drew) (v := v) (w4 := w4) (H := H) o hB hne hrX sh (a := a) (b := b) (c := c) (k := k) (f := .slice p l cp) (rs := rs) (rn := rn) (g := g) (cap := cap) ho' hg hat hH)
  have UP := Lib.hid (fun (e : Ending) (w' : World) (h : RfR X.drew t B nodes to id sq (.slice ua (n + 1) uc) (.slice ra rn rc) n rn cs rs (encE a b c k (.slice p l cp)) e w') => show RfR w t B nodes to id sq (.slice ua (n + 1) uc) (.slice ra rn rc) n rn cs rs (encE a b c k (.slice p l cp)) e w' from by
    obtain ⟨he, a', c', g, cap, T', o1, hob, o2, hg, f⟩ := h
    refine ⟨he, a', c', g, cap, T', o1, hob, o2, hg.imp _root_.id (fun h => ?_), ?_⟩
    · have h : X.heap.size ≤ g := h
      omega
    · exact (Fr.of_below BX _).on (f.undrew))
  have RW := Lib.hid (fun (v : World) (sh : ShR X.drew t B nodes to id sq (.slice ua (n + 1) uc) n cs (.slice ra rn rc) (evV a b c k (.slice p l cp)) (.returned (evV a b c k (.slice p l cp))) v) => show v.ownsRow B 31 5 (.slice ra rn rc) rn rs ∧ v.cell? ⟨t, 5, none⟩ = some (.slice ra rn rc) ∧ B ≤ v.heap.size ∧ t < v.heap.size ∧ X.heap.size ≤ v.heap.size from by
    obtain ⟨_, a', c', T', _, _, f'⟩ := sh
    refine ⟨Fr.own rX f'.undrew (fun q hq h => ?_), T'.cell 5, Nat.le_trans hBX f'.size, T'.lt, f'.size⟩
    rcases h with h | h
    · have := (hrX q hq).1; omega
    · exact hne q hq h)
  have c5 : X.drew.cell? ⟨t, 5, none⟩ = some (.slice ra rn rc) := TXd.cell 5
  have hrI : (rn : Int) ≤ 1000 := by omega
  generalize hQ : RfR w t B nodes to id sq (.slice ua (n + 1) uc) (.slice ra rn rc) n rn cs rs (encE a b c k (.slice p l cp)) = Q at *
  clear T TX TXd hX oX rX ho hr hQ BX KX hrX hne
  go_enter Try.func13, Try.ntmps13
  go_wp2_with fail
  rw [← HX.out]
  refine LF.out.mono ?_
  rintro e w1 ⟨rfl, rfl⟩
  go_wp2_with fail
  refine OP.out.mono ?_
  rintro e w1 ⟨rfl, rfl⟩
  unfold evV at *
  go_wp2_with fail
  go_region_law
    (first
      | (refine step_append_lies _ rfl (.tmp 46) (.tmp 49) 89 rfl B 31 i31 (.agg #[.int .i64 0, .int .i64 0, .int .i64 0, .string ⟨#[]⟩, .slice none 0 0]) 5 64 Try.underlying89 hi hz0 hz1 hz2 rfl (by decide) (.slice ra rn rc) rn rs rfl (World.ownsRow.alloc OW2.out _) ⟨v2.heap.size, 0, none⟩ 1 1 (encE a b c k (.slice p l cp)) rfl rfl (World.news_of_block (cs := #[.int .i64 a, .int .i64 b, .int .i64 c, .string k, .slice p l cp]) (heap_alloc_new v2 _)) (one_encE a b c k p l cp) (by decide) (by unfold maxLen; omega) (by omega) (by have := hXv; simp; omega) _ rfl ?_; intro g4 cap4 w4 ho4 hg4 hat4 _; obtain ⟨A4, f4, q4⟩ := END.out v2 w4 g4 cap4 _ _ (by have := hXs; simp; omega) SH2.out ho4 hg4 hat4; have A4h := Lib.hid (UP.out _ _ A4); clear A4 ho4 hg4 hat4)
      | (go_simp; go_at_call 46; refine SH.out.mono ?_; rintro r9 v2 sh; obtain rfl := sh.1; obtain ⟨ow2, c6, hXv, htv, hXs⟩ := RW.out v2 sh; have OW2 := Lib.hid ow2; have SH2 := Lib.hid sh; have c7 : ∀ o, (v2.alloc o).cell? ⟨t, 5, none⟩ = some (.slice ra rn rc) := fun o => (World.cell?_alloc_lt _ _ _ htv).trans c6; clear ow2 sh))
  all_goals (go_wp2_with fail; go_end0; exact A4h.out)
end Go.Proofs.Ytbghjcfepjbppaa
/-
  A TELLER IS TOLD, in the other ways.
-/
namespace Go.Proofs.Ytbghjcfepjbppaa
open Go.RowKit
theorem told_zero {w : World} {t : Nat} {nodes to id sq e m lead : Int} {a : Option Addr} {c : Nat} {rv : Value} (T : Blk w t 98 (tel nodes to id sq (.slice a 0 c) rv)) :
    Calls Try.prog 13 #[.pointer (some ⟨t, 0, none⟩), .agg #[.int .i64 e, .int .i64 m], .int .i64 lead] w fun r w' => r = .returned (.tuple #[]) ∧ Below w.heap.size w w' := by
  have B1 := Lib.hid (fun o => (Below.refl w.heap.size w).alloc (Nat.le_refl _) o)
  have LF := Lib.hid (fun o => left_any (T.below (B1.out o)))
  clear T
  go_enter Try.func13, Try.ntmps13
  go_wp2_with fail
  refine (LF.out _).mono ?_
  rintro e w1 ⟨rfl, rfl⟩
  go_wp2_with fail
  refine bodyPost_ret (results_none rfl _ _ _) rfl ?_
  exact ⟨rfl, B1.out _⟩
theorem told_came {w : World} {t : Nat} {nodes to id sq m lead : Int} {a : Option Addr} {n c : Nat} {rv : Value} {R : World → World → Prop} (T : Blk w t 98 (tel nodes to id sq (.slice a n c) rv)) (hn : 0 < n)
    (CM : ∀ X, Below w.heap.size w X → Calls Try.prog 44 #[.pointer (some ⟨t, 0, none⟩), .int .i64 m] X fun r w' => r = .returned (.tuple #[]) ∧ R X w') :
    Calls Try.prog 13 #[.pointer (some ⟨t, 0, none⟩), .agg #[.int .i64 0, .int .i64 m], .int .i64 lead] w fun r w' => r = .returned (.tuple #[]) ∧ ∃ X, Below w.heap.size w X ∧ R X w' := by
  have B1 := Lib.hid (fun o => (Below.refl w.heap.size w).alloc (Nat.le_refl _) o)
  have LF := Lib.hid (fun o => left_any (T.below (B1.out o)))
  have CMh := Lib.hid (fun o => CM _ (B1.out o))
  have hn1 : ((n : Int) == 0) = false := by rw [beq_eq_false_iff_ne]; omega
  clear T CM
  go_enter Try.func13, Try.ntmps13
  go_wp2_with fail
  refine (LF.out _).mono ?_
  rintro e w1 ⟨rfl, rfl⟩
  go_wp2_with fail
  refine (CMh.out _).mono ?_
  rintro e w2 ⟨rfl, h⟩
  have F := Lib.hid (show ∃ X, Below w.heap.size w X ∧ R X w2 from ⟨_, B1.out _, h⟩)
  clear h
  go_wp2_with fail
  go_end0
  exact ⟨rfl, F.out⟩
theorem told_none {w : World} {t : Nat} {nodes to id sq m lead : Int} {a : Option Addr} {n c : Nat} {rv : Value} (T : Blk w t 98 (tel nodes to id sq (.slice a n c) rv)) (hn : 0 < n) (hid : id ≠ 0) :
    Calls Try.prog 13 #[.pointer (some ⟨t, 0, none⟩), .agg #[.int .i64 4, .int .i64 m], .int .i64 lead] w fun r w' => r = .returned (.tuple #[]) ∧ Blk w' t 98 (tel nodes to 0 0 (.slice a n c) rv) ∧ Fr w w' (fun q => q = t) := by
  have hlt := T.lt
  obtain ⟨X, hX, BX, sX⟩ : ∃ X, X = w.alloc (.cells #[.int .i64 4, .int .i64 m] 34) ∧ Below w.heap.size w X ∧ X.heap.size = w.heap.size + 1 := ⟨_, rfl, (Below.refl w.heap.size w).alloc (Nat.le_refl _) _, by simp⟩
  have HX := Lib.hid hX
  have TX := T.at_ BX hlt
  have KX : Blk X w.heap.size 34 #[.int .i64 4, .int .i64 m] := by rw [hX]; exact Blk.new w 34 _
  have k0 : X.cell? ⟨w.heap.size, 0, none⟩ = some (.int .i64 4) := KX.cell 0
  have LF := Lib.hid (left_any TX)
  have OP := Lib.hid (open_any TX)
  have c2 : X.cell? ⟨t, 2, none⟩ = some (.int .i64 id) := TX.cell 2
  have c3 : X.cell? ⟨t, 3, none⟩ = some (.int .i64 sq) := TX.cell 3
  have fz : ∀ i, X.frozen? ⟨t, i, none⟩ = false := TX.free
  have FIN : Hid (Blk ((X.setCell ⟨t, 2, none⟩ (.int .i64 0)).setCell ⟨t, 3, none⟩ (.int .i64 0)) t 98 (tel nodes to 0 0 (.slice a n c) rv) ∧ Fr w ((X.setCell ⟨t, 2, none⟩ (.int .i64 0)).setCell ⟨t, 3, none⟩ (.int .i64 0)) (fun q => q = t)) := Lib.hid ⟨(TX.set 2 _).set 3 _, ((Fr.of_below BX (fun q => q = t)).set t 2 _ (.inl rfl)).set t 3 _ (.inl rfl)⟩
  have hn1 : ((n : Int) == 0) = false := by rw [beq_eq_false_iff_ne]; omega
  have hi0 : (id != 0) = true := bne_iff_ne.2 hid
  clear T TX KX BX hX
  go_enter Try.func13, Try.ntmps13
  go_wp2_with fail
  rw [← HX.out]
  refine LF.out.mono ?_
  rintro e w1 ⟨rfl, rfl⟩
  go_wp2_with fail
  refine OP.out.mono ?_
  rintro e w1 ⟨rfl, rfl⟩
  go_wp2_with fail
  go_end0
  exact ⟨rfl, FIN.out⟩
/-- whom the next asking goes to -/
def turnN (lead to nodes : Int) : Int := if 0 ≤ lead ∧ lead < nodes then lead else nextN to nodes
theorem turn_any {w : World} {t : Nat} {nodes to id sq lead : Int} {wv rv : Value} (T : Blk w t 98 (tel nodes to id sq wv rv)) (ht : 0 ≤ to ∧ to ≤ 100) (hn : nodes ≤ 100) :
    Calls Try.prog 47 #[.pointer (some ⟨t, 0, none⟩), .int .i64 lead] w fun e w' => e = .returned (.tuple #[]) ∧ Blk w' t 98 (tel nodes (turnN lead to nodes) id sq wv rv) ∧ Fr w w' (fun q => q = t) := by
  by_cases h : 0 ≤ lead ∧ lead < nodes
  · have e : turnN lead to nodes = lead := if_pos h
    rw [e]
    exact turn_to T (to := to) rfl rfl h
  · have e : turnN lead to nodes = nextN to nodes := if_neg h
    rw [e]
    exact turn_off T rfl rfl ht hn h
set_option maxHeartbeats 1000000 in
theorem told_turn {w : World} {t : Nat} {nodes to id sq e m lead : Int} {a : Option Addr} {n c : Nat} {rv : Value} (T : Blk w t 98 (tel nodes to id sq (.slice a n c) rv)) (hn : 0 < n) (ht : 0 ≤ to ∧ to ≤ 100) (hns : nodes ≤ 100)
    (h0 : e ≠ 0) (h4 : ¬ (e = 4 ∧ id ≠ 0)) (h130 : ¬ (e = 130 ∧ id ≠ 0)) :
    Calls Try.prog 13 #[.pointer (some ⟨t, 0, none⟩), .agg #[.int .i64 e, .int .i64 m], .int .i64 lead] w fun r w' => r = .returned (.tuple #[]) ∧ Blk w' t 98 (tel nodes (turnN lead to nodes) id sq (.slice a n c) rv) ∧ Fr w w' (fun q => q = t) := by
  have hlt := T.lt
  obtain ⟨X, hX, BX, sX⟩ : ∃ X, X = w.alloc (.cells #[.int .i64 e, .int .i64 m] 34) ∧ Below w.heap.size w X ∧ X.heap.size = w.heap.size + 1 := ⟨_, rfl, (Below.refl w.heap.size w).alloc (Nat.le_refl _) _, by simp⟩
  have HX := Lib.hid hX
  have TX := T.at_ BX hlt
  have KX : Blk X w.heap.size 34 #[.int .i64 e, .int .i64 m] := by rw [hX]; exact Blk.new w 34 _
  have k0 : X.cell? ⟨w.heap.size, 0, none⟩ = some (.int .i64 e) := KX.cell 0
  have LF := Lib.hid (left_any TX)
  have OP := Lib.hid (open_any TX)
  have TN := Lib.hid (turn_any (lead := lead) TX ht hns)
  have FX := Lib.hid (Fr.of_below BX (fun q => q = t))
  have hn1 : ((n : Int) == 0) = false := by rw [beq_eq_false_iff_ne]; omega
  have e0 : (e == 0) = false := beq_eq_false_iff_ne.2 h0
  clear T TX KX BX hX
  by_cases g4 : e = 4
  · have hi0 : (id != 0) = false := by
      have : id = 0 := Decidable.byContradiction fun h => h4 ⟨g4, h⟩
      subst this; rfl
    have e4 : (e == 4) = true := beq_iff_eq.2 g4
    have e130 : (e == 130) = false := by rw [beq_eq_false_iff_ne]; omega
    clear g4 h4 h130 h0
    go_enter Try.func13, Try.ntmps13
    go_wp2_with fail
    rw [← HX.out]
    refine LF.out.mono ?_
    rintro r w1 ⟨rfl, rfl⟩
    go_wp2_with fail
    refine OP.out.mono ?_
    rintro r w1 ⟨rfl, rfl⟩
    go_wp2_with fail
    refine TN.out.mono ?_
    rintro r w2 ⟨rfl, T2, f2⟩
    have T2 := Lib.hid T2
    have f2 := Lib.hid f2
    go_wp2_with fail
    go_end0
    exact ⟨rfl, T2.out, FX.out.on f2.out⟩
  · have e4 : (e == 4) = false := beq_eq_false_iff_ne.2 g4
    by_cases g130 : e = 130
    · have hi0 : (id != 0) = false := by
        have : id = 0 := Decidable.byContradiction fun h => h130 ⟨g130, h⟩
        subst this; rfl
      have e130 : (e == 130) = true := beq_iff_eq.2 g130
      clear g4 h4 h130 h0 g130
      go_enter Try.func13, Try.ntmps13
      go_wp2_with fail
      rw [← HX.out]
      refine LF.out.mono ?_
      rintro r w1 ⟨rfl, rfl⟩
      go_wp2_with fail
      refine OP.out.mono ?_
      rintro r w1 ⟨rfl, rfl⟩
      go_wp2_with fail
      refine TN.out.mono ?_
      rintro r w2 ⟨rfl, T2, f2⟩
      have T2 := Lib.hid T2
      have f2 := Lib.hid f2
      go_wp2_with fail
      go_end0
      exact ⟨rfl, T2.out, FX.out.on f2.out⟩
    · have e130 : (e == 130) = false := beq_eq_false_iff_ne.2 g130
      clear g4 h4 h130 h0 g130
      go_enter Try.func13, Try.ntmps13
      go_wp2_with fail
      rw [← HX.out]
      refine LF.out.mono ?_
      rintro r w1 ⟨rfl, rfl⟩
      go_wp2_with fail
      refine TN.out.mono ?_
      rintro r w2 ⟨rfl, T2, f2⟩
      have T2 := Lib.hid T2
      have f2 := Lib.hid f2
      go_wp2_with fail
      go_end0
      exact ⟨rfl, T2.out, FX.out.on f2.out⟩
end Go.Proofs.Ytbghjcfepjbppaa
/-
  THE DOCUMENT's TELLER IS TOLD: every way but a refusal.
-/
namespace Go.Proofs.Ytbghjcfepjbppaa
open Go.RowKit
/-- what the document's Told leaves, where memory is only added to -/
def DtR (w : World) (r : Value) (e : Ending) (w' : World) : Prop := e = .returned r ∧ Below w.heap.size w w'
set_option maxHeartbeats 1000000 in
set_option maxRecDepth 100000 in
theorem dtold_zero (nodes to id sq e m lead : Int) (wa ra : Option Addr) (wc rn rc : Nat) (w : World)  :
    Calls Try.prog 12 #[dtel nodes to id sq (.slice wa 0 wc) (.slice ra rn rc), .int .i64 e, .int .i64 m, .int .i64 lead] w (DtR w (dtel nodes to id sq (.slice wa 0 wc) (.slice ra rn rc))) := by
  unfold dtel DtR
  go_enter Try.func12, Try.ntmps12
  go_wp2_with fail
  refine bodyPost_ret (by simp [results, Try.results12, go_sem]; try rfl) rfl ?_
  exact ⟨rfl, ((Below.refl w.heap.size w).alloc (Nat.le_refl _) _).alloc (by simp) _⟩
set_option maxHeartbeats 1000000 in
set_option maxRecDepth 100000 in
theorem dtold_opens (nodes to sq m lead : Int) (wa ra : Option Addr) (wn wc rn rc : Nat) (w : World) (hn : 0 < wn) (hm : 1 ≤ m ∧ m ≤ 549755813888) :
    Calls Try.prog 12 #[dtel nodes to 0 sq (.slice wa wn wc) (.slice ra rn rc), .int .i64 0, .int .i64 m, .int .i64 lead] w (DtR w (dtel nodes to m 0 (.slice wa wn wc) (.slice ra rn rc))) := by
  have hn1 : ((wn : Int) == 0) = false := by rw [beq_eq_false_iff_ne]; omega
  obtain ⟨h1, h2⟩ := hm
  unfold dtel DtR
  go_enter Try.func12, Try.ntmps12
  go_wp2_with fail
  refine bodyPost_ret (by simp [results, Try.results12, go_sem]; try rfl) rfl ?_
  exact ⟨rfl, ((Below.refl w.heap.size w).alloc (Nat.le_refl _) _).alloc (by simp) _⟩
set_option maxHeartbeats 1000000 in
set_option maxRecDepth 100000 in
theorem dtold_opens_no (nodes to sq m lead : Int) (wa ra : Option Addr) (wn wc rn rc : Nat) (w : World) (hn : 0 < wn) (hm : ¬ (1 ≤ m ∧ m ≤ 549755813888)) :
    Calls Try.prog 12 #[dtel nodes to 0 sq (.slice wa wn wc) (.slice ra rn rc), .int .i64 0, .int .i64 m, .int .i64 lead] w (DtR w (dtel nodes to 0 sq (.slice wa wn wc) (.slice ra rn rc))) := by
  have hn1 : ((wn : Int) == 0) = false := by rw [beq_eq_false_iff_ne]; omega
  by_cases h1 : 1 ≤ m
  · have h2 : ¬ (m ≤ 549755813888) := fun h => hm ⟨h1, h⟩
    clear hm
    unfold dtel DtR
    go_enter Try.func12, Try.ntmps12
    go_wp2_with fail
    refine bodyPost_ret (by simp [results, Try.results12, go_sem]; try rfl) rfl ?_
    exact ⟨rfl, ((Below.refl w.heap.size w).alloc (Nat.le_refl _) _).alloc (by simp) _⟩
  clear hm
  unfold dtel DtR
  go_enter Try.func12, Try.ntmps12
  go_wp2_with fail
  refine bodyPost_ret (by simp [results, Try.results12, go_sem]; try rfl) rfl ?_
  exact ⟨rfl, ((Below.refl w.heap.size w).alloc (Nat.le_refl _) _).alloc (by simp) _⟩
set_option maxHeartbeats 1000000 in
set_option maxRecDepth 100000 in
theorem dtold_old (nodes to id sq m lead : Int) (wa ra : Option Addr) (wn wc rn rc : Nat) (w : World) (hn : 0 < wn) (hid : id ≠ 0) (hsq : -9223372036854775808 ≤ sq + 1 ∧ sq + 1 ≤ 9223372036854775807) (hm : m ≠ sq + 1) :
    Calls Try.prog 12 #[dtel nodes to id sq (.slice wa wn wc) (.slice ra rn rc), .int .i64 0, .int .i64 m, .int .i64 lead] w (DtR w (dtel nodes to id sq (.slice wa wn wc) (.slice ra rn rc))) := by
  have hn1 : ((wn : Int) == 0) = false := by rw [beq_eq_false_iff_ne]; omega
  have hi : (id == 0) = false := beq_eq_false_iff_ne.2 hid
  have hw : IntKind.i64.wrap (sq + 1) = sq + 1 := by rw [IntKind.wrap_i64]; omega
  have hx : (m == sq + 1) = false := beq_eq_false_iff_ne.2 hm
  unfold dtel DtR
  go_enter Try.func12, Try.ntmps12
  go_wp2_with fail
  refine bodyPost_ret (by simp [results, Try.results12, go_sem]; try rfl) rfl ?_
  exact ⟨rfl, ((Below.refl w.heap.size w).alloc (Nat.le_refl _) _).alloc (by simp) _⟩
set_option maxHeartbeats 1000000 in
set_option maxRecDepth 100000 in
theorem dtold_none (nodes to id sq m lead : Int) (wa ra : Option Addr) (wn wc rn rc : Nat) (w : World) (hn : 0 < wn) (hid : id ≠ 0) :
    Calls Try.prog 12 #[dtel nodes to id sq (.slice wa wn wc) (.slice ra rn rc), .int .i64 4, .int .i64 m, .int .i64 lead] w (DtR w (dtel nodes to 0 0 (.slice wa wn wc) (.slice ra rn rc))) := by
  have hn1 : ((wn : Int) == 0) = false := by rw [beq_eq_false_iff_ne]; omega
  have hi : (id == 0) = false := beq_eq_false_iff_ne.2 hid
  have hi2 : (id != 0) = true := bne_iff_ne.2 hid
  unfold dtel DtR
  go_enter Try.func12, Try.ntmps12
  go_wp2_with fail
  refine bodyPost_ret (by simp [results, Try.results12, go_sem]; try rfl) rfl ?_
  exact ⟨rfl, ((Below.refl w.heap.size w).alloc (Nat.le_refl _) _).alloc (by simp) _⟩
set_option maxHeartbeats 1000000 in
set_option maxRecDepth 100000 in
theorem dtold_next (nodes to id sq lead : Int) (g o : Nat) (ra A : Option Addr) (n wc rn rc : Nat) (w : World) (hid : id ≠ 0) (hsq : -9223372036854775808 ≤ sq + 1 ∧ sq + 1 ≤ 9223372036854775807) (hwc : n + 1 ≤ wc) (hwm : wc ≤ maxLen)
    (hA : A = if wc = 1 then some ⟨g, o, none⟩ else some ⟨g, o + 5, none⟩) :
    Calls Try.prog 12 #[dtel nodes to id sq (.slice (some ⟨g, o, none⟩) (n + 1) wc) (.slice ra rn rc), .int .i64 0, .int .i64 (sq + 1), .int .i64 lead] w (DtR w (dtel nodes to id (sq + 1) (.slice A n (wc - 1)) (.slice ra rn rc))) := by
  have hi : (id == 0) = false := beq_eq_false_iff_ne.2 hid
  have hw : IntKind.i64.wrap (sq + 1) = sq + 1 := by rw [IntKind.wrap_i64]; omega
  have hx : ((sq + 1) == (sq + 1)) = true := beq_self_eq_true _
  have hn1 : ((n : Int) + 1 == 0) = false := by rw [beq_eq_false_iff_ne]; omega
  have hb1 : (1 : Int) ≤ (n : Int) + 1 := by omega
  have hb2 : 1 ≤ wc := by omega
  have hb3 : (wc : Int) ≤ 9223372036854775807 := by unfold maxLen at hwm; omega
  unfold dtel DtR
  go_enter Try.func12, Try.ntmps12
  go_wp2_with fail
  all_goals (refine bodyPost_ret (by simp [results, Try.results12, go_sem]; try rfl) rfl ?_; exact ⟨rfl, ((Below.refl w.heap.size w).alloc (Nat.le_refl _) _).alloc (by simp) _⟩)
set_option maxHeartbeats 1000000 in
set_option maxRecDepth 100000 in
theorem dtold_lead (nodes to id sq e m lead : Int) (wa ra : Option Addr) (wn wc rn rc : Nat) (w : World) (hn : 0 < wn) (h0 : e ≠ 0) (h4 : ¬ (e = 4 ∧ id ≠ 0)) (h130 : ¬ (e = 130 ∧ id ≠ 0)) (hl : 0 ≤ lead ∧ lead < nodes) :
    Calls Try.prog 12 #[dtel nodes to id sq (.slice wa wn wc) (.slice ra rn rc), .int .i64 e, .int .i64 m, .int .i64 lead] w (DtR w (dtel nodes lead id sq (.slice wa wn wc) (.slice ra rn rc))) := by
  have hn1 : ((wn : Int) == 0) = false := by rw [beq_eq_false_iff_ne]; omega
  have e0 : (e == 0) = false := beq_eq_false_iff_ne.2 h0
  obtain ⟨l1, l2⟩ := hl
  by_cases g4 : e = 4
  · have hi0 : id = 0 := Decidable.byContradiction fun h => h4 ⟨g4, h⟩
    subst hi0
    have e4 : (e == 4) = true := beq_iff_eq.2 g4
    have e130 : (e == 130) = false := by rw [beq_eq_false_iff_ne]; omega
    clear g4 h4 h130 h0
    unfold dtel DtR
    go_enter Try.func12, Try.ntmps12
    go_wp2_with fail
    refine bodyPost_ret (by simp [results, Try.results12, go_sem]; try rfl) rfl ?_
    exact ⟨rfl, ((Below.refl w.heap.size w).alloc (Nat.le_refl _) _).alloc (by simp) _⟩
  · have e4 : (e == 4) = false := beq_eq_false_iff_ne.2 g4
    by_cases g130 : e = 130
    · have hi0 : id = 0 := Decidable.byContradiction fun h => h130 ⟨g130, h⟩
      subst hi0
      have e130 : (e == 130) = true := beq_iff_eq.2 g130
      clear g4 h4 h130 h0 g130
      unfold dtel DtR
      go_enter Try.func12, Try.ntmps12
      go_wp2_with fail
      refine bodyPost_ret (by simp [results, Try.results12, go_sem]; try rfl) rfl ?_
      exact ⟨rfl, ((Below.refl w.heap.size w).alloc (Nat.le_refl _) _).alloc (by simp) _⟩
    · have e130 : (e == 130) = false := beq_eq_false_iff_ne.2 g130
      clear g4 h4 h130 h0 g130
      unfold dtel DtR
      go_enter Try.func12, Try.ntmps12
      go_wp2_with fail
      refine bodyPost_ret (by simp [results, Try.results12, go_sem]; try rfl) rfl ?_
      exact ⟨rfl, ((Below.refl w.heap.size w).alloc (Nat.le_refl _) _).alloc (by simp) _⟩
end Go.Proofs.Ytbghjcfepjbppaa
/-
  THE DOCUMENT's TELLER IS TOLD: the next node is asked.
-/
namespace Go.Proofs.Ytbghjcfepjbppaa
open Go.RowKit
set_option maxHeartbeats 4000000 in
set_option maxRecDepth 100000 in
theorem dtold_late (nodes to id sq e m lead : Int) (wa ra : Option Addr) (wn wc rn rc : Nat) (w : World) (hn : 0 < wn) (ht : 0 ≤ to ∧ to ≤ 100) (h0 : e ≠ 0) (h4 : ¬ (e = 4 ∧ id ≠ 0)) (h130 : ¬ (e = 130 ∧ id ≠ 0)) (hl : ¬ (0 ≤ lead ∧ lead < nodes)) :
    Calls Try.prog 12 #[dtel nodes to id sq (.slice wa wn wc) (.slice ra rn rc), .int .i64 e, .int .i64 m, .int .i64 lead] w (DtR w (dtel nodes (nextN to nodes) id sq (.slice wa wn wc) (.slice ra rn rc))) := by
  have hn1 : ((wn : Int) == 0) = false := by rw [beq_eq_false_iff_ne]; omega
  have e0 : (e == 0) = false := beq_eq_false_iff_ne.2 h0
  obtain ⟨X, hX, BX, KX, sX⟩ : ∃ X, X = (w.alloc (.cells #[.int .i64 nodes, .int .i64 to, .int .i64 id, .int .i64 sq, .slice wa wn wc, .slice ra rn rc] 28)).alloc (.cells #[.int .i64 0, .int .i64 0, .int .i64 0, .int .i64 0, .slice none 0 0, .slice none 0 0] 28) ∧ Below w.heap.size w X ∧ Blk X (w.heap.size + 1) 28 #[.int .i64 0, .int .i64 0, .int .i64 0, .int .i64 0, .slice none 0 0, .slice none 0 0] ∧ X.heap.size = w.heap.size + 1 + 1 :=
    ⟨_, rfl, ((Below.refl w.heap.size w).alloc (Nat.le_refl _) _).alloc (by simp) _, by have := Blk.new (w.alloc (.cells #[.int .i64 nodes, .int .i64 to, .int .i64 id, .int .i64 sq, .slice wa wn wc, .slice ra rn rc] 28)) 28 #[.int .i64 0, .int .i64 0, .int .i64 0, .int .i64 0, .slice none 0 0, .slice none 0 0]; simpa using this, by simp⟩
  have HX := Lib.hid hX
  have KXh := Lib.hid KX
  have BXh := Lib.hid BX
  have DL := Lib.hid (dlate_any nodes to id sq wa ra wn wc rn rc X ht)
  unfold dtel at DL
  have FIN : Hid (∀ w2, Below X.heap.size X w2 → DtR w (dtel nodes (nextN to nodes) id sq (.slice wa wn wc) (.slice ra rn rc)) (.returned (dtel nodes (nextN to nodes) id sq (.slice wa wn wc) (.slice ra rn rc))) ((((((w2.setCell ⟨w.heap.size + 1, 0, none⟩ (.int .i64 nodes)).setCell ⟨w.heap.size + 1, 1, none⟩ (.int .i64 (nextN to nodes))).setCell ⟨w.heap.size + 1, 2, none⟩ (.int .i64 id)).setCell ⟨w.heap.size + 1, 3, none⟩ (.int .i64 sq)).setCell ⟨w.heap.size + 1, 4, none⟩ (.slice wa wn wc)).setCell ⟨w.heap.size + 1, 5, none⟩ (.slice ra rn rc))) := Lib.hid (by
    intro w2 b2
    have l1 : w.heap.size ≤ w.heap.size + 1 := Nat.le_succ _
    have b := BX.trans (b2.mono (by omega))
    exact ⟨rfl, bel_set (bel_set (bel_set (bel_set (bel_set (bel_set b l1 _ _) l1 _ _) l1 _ _) l1 _ _) l1 _ _) l1 _ _⟩)
  clear hX KX BX
  generalize hQ : DtR w (dtel nodes (nextN to nodes) id sq (.slice wa wn wc) (.slice ra rn rc)) = Q at *
  clear hQ
  unfold dtel at *
  by_cases g4 : e = 4
  · have hi0 : (id == 0) = true := by
      have : id = 0 := Decidable.byContradiction fun h => h4 ⟨g4, h⟩
      subst this; rfl
    have hi1 : (id != 0) = false := by
      have : id = 0 := Decidable.byContradiction fun h => h4 ⟨g4, h⟩
      subst this; rfl
    have e4 : (e == 4) = true := beq_iff_eq.2 g4
    have e130 : (e == 130) = false := by rw [beq_eq_false_iff_ne]; omega
    clear g4 h4 h130 h0
    by_cases l1 : 0 ≤ lead
    · have l2 : ¬ (lead < nodes) := fun h => hl ⟨l1, h⟩
      clear hl
      go_enter Try.func12, Try.ntmps12
      go_wp2_with fail
      rw [← HX.out]
      refine DL.out.mono ?_
      rintro r w2 ⟨rfl, b2⟩
      have K2 := KXh.out.below b2
      have F2 := Lib.hid (FIN.out w2 b2)
      have z0 : w2.cell? ⟨w.heap.size + 1, 0, none⟩ = some (.int .i64 0) := K2.cell 0
      have z1 : w2.cell? ⟨w.heap.size + 1, 1, none⟩ = some (.int .i64 0) := K2.cell 1
      have z2 : w2.cell? ⟨w.heap.size + 1, 2, none⟩ = some (.int .i64 0) := K2.cell 2
      have z3 : w2.cell? ⟨w.heap.size + 1, 3, none⟩ = some (.int .i64 0) := K2.cell 3
      have z4 : w2.cell? ⟨w.heap.size + 1, 4, none⟩ = some (.slice none 0 0) := K2.cell 4
      have z5 : w2.cell? ⟨w.heap.size + 1, 5, none⟩ = some (.slice none 0 0) := K2.cell 5
      have fz : ∀ i, w2.frozen? ⟨w.heap.size + 1, i, none⟩ = false := K2.free
      clear K2 b2
      go_wp2_with fail
      refine bodyPost_ret (by simp [results, Try.results12, go_sem, z0, z1, z2, z3, z4, z5]; try rfl) rfl ?_
      exact F2.out
    · clear hl
      go_enter Try.func12, Try.ntmps12
      go_wp2_with fail
      rw [← HX.out]
      refine DL.out.mono ?_
      rintro r w2 ⟨rfl, b2⟩
      have K2 := KXh.out.below b2
      have F2 := Lib.hid (FIN.out w2 b2)
      have z0 : w2.cell? ⟨w.heap.size + 1, 0, none⟩ = some (.int .i64 0) := K2.cell 0
      have z1 : w2.cell? ⟨w.heap.size + 1, 1, none⟩ = some (.int .i64 0) := K2.cell 1
      have z2 : w2.cell? ⟨w.heap.size + 1, 2, none⟩ = some (.int .i64 0) := K2.cell 2
      have z3 : w2.cell? ⟨w.heap.size + 1, 3, none⟩ = some (.int .i64 0) := K2.cell 3
      have z4 : w2.cell? ⟨w.heap.size + 1, 4, none⟩ = some (.slice none 0 0) := K2.cell 4
      have z5 : w2.cell? ⟨w.heap.size + 1, 5, none⟩ = some (.slice none 0 0) := K2.cell 5
      have fz : ∀ i, w2.frozen? ⟨w.heap.size + 1, i, none⟩ = false := K2.free
      clear K2 b2
      go_wp2_with fail
      refine bodyPost_ret (by simp [results, Try.results12, go_sem, z0, z1, z2, z3, z4, z5]; try rfl) rfl ?_
      exact F2.out
  · have e4 : (e == 4) = false := beq_eq_false_iff_ne.2 g4
    by_cases g130 : e = 130
    · have hi0 : (id == 0) = true := by
        have : id = 0 := Decidable.byContradiction fun h => h130 ⟨g130, h⟩
        subst this; rfl
      have hi1 : (id != 0) = false := by
        have : id = 0 := Decidable.byContradiction fun h => h130 ⟨g130, h⟩
        subst this; rfl
      have e130 : (e == 130) = true := beq_iff_eq.2 g130
      clear g4 h4 h130 h0 g130
      by_cases l1 : 0 ≤ lead
      · have l2 : ¬ (lead < nodes) := fun h => hl ⟨l1, h⟩
        clear hl
        go_enter Try.func12, Try.ntmps12
        go_wp2_with fail
        rw [← HX.out]
        refine DL.out.mono ?_
        rintro r w2 ⟨rfl, b2⟩
        have K2 := KXh.out.below b2
        have F2 := Lib.hid (FIN.out w2 b2)
        have z0 : w2.cell? ⟨w.heap.size + 1, 0, none⟩ = some (.int .i64 0) := K2.cell 0
        have z1 : w2.cell? ⟨w.heap.size + 1, 1, none⟩ = some (.int .i64 0) := K2.cell 1
        have z2 : w2.cell? ⟨w.heap.size + 1, 2, none⟩ = some (.int .i64 0) := K2.cell 2
        have z3 : w2.cell? ⟨w.heap.size + 1, 3, none⟩ = some (.int .i64 0) := K2.cell 3
        have z4 : w2.cell? ⟨w.heap.size + 1, 4, none⟩ = some (.slice none 0 0) := K2.cell 4
        have z5 : w2.cell? ⟨w.heap.size + 1, 5, none⟩ = some (.slice none 0 0) := K2.cell 5
        have fz : ∀ i, w2.frozen? ⟨w.heap.size + 1, i, none⟩ = false := K2.free
        clear K2 b2
        go_wp2_with fail
        refine bodyPost_ret (by simp [results, Try.results12, go_sem, z0, z1, z2, z3, z4, z5]; try rfl) rfl ?_
        exact F2.out
      · clear hl
        go_enter Try.func12, Try.ntmps12
        go_wp2_with fail
        rw [← HX.out]
        refine DL.out.mono ?_
        rintro r w2 ⟨rfl, b2⟩
        have K2 := KXh.out.below b2
        have F2 := Lib.hid (FIN.out w2 b2)
        have z0 : w2.cell? ⟨w.heap.size + 1, 0, none⟩ = some (.int .i64 0) := K2.cell 0
        have z1 : w2.cell? ⟨w.heap.size + 1, 1, none⟩ = some (.int .i64 0) := K2.cell 1
        have z2 : w2.cell? ⟨w.heap.size + 1, 2, none⟩ = some (.int .i64 0) := K2.cell 2
        have z3 : w2.cell? ⟨w.heap.size + 1, 3, none⟩ = some (.int .i64 0) := K2.cell 3
        have z4 : w2.cell? ⟨w.heap.size + 1, 4, none⟩ = some (.slice none 0 0) := K2.cell 4
        have z5 : w2.cell? ⟨w.heap.size + 1, 5, none⟩ = some (.slice none 0 0) := K2.cell 5
        have fz : ∀ i, w2.frozen? ⟨w.heap.size + 1, i, none⟩ = false := K2.free
        clear K2 b2
        go_wp2_with fail
        refine bodyPost_ret (by simp [results, Try.results12, go_sem, z0, z1, z2, z3, z4, z5]; try rfl) rfl ?_
        exact F2.out
    · have e130 : (e == 130) = false := beq_eq_false_iff_ne.2 g130
      clear g4 h4 h130 h0 g130
      by_cases l1 : 0 ≤ lead
      · have l2 : ¬ (lead < nodes) := fun h => hl ⟨l1, h⟩
        clear hl
        go_enter Try.func12, Try.ntmps12
        go_wp2_with fail
        rw [← HX.out]
        refine DL.out.mono ?_
        rintro r w2 ⟨rfl, b2⟩
        have K2 := KXh.out.below b2
        have F2 := Lib.hid (FIN.out w2 b2)
        have z0 : w2.cell? ⟨w.heap.size + 1, 0, none⟩ = some (.int .i64 0) := K2.cell 0
        have z1 : w2.cell? ⟨w.heap.size + 1, 1, none⟩ = some (.int .i64 0) := K2.cell 1
        have z2 : w2.cell? ⟨w.heap.size + 1, 2, none⟩ = some (.int .i64 0) := K2.cell 2
        have z3 : w2.cell? ⟨w.heap.size + 1, 3, none⟩ = some (.int .i64 0) := K2.cell 3
        have z4 : w2.cell? ⟨w.heap.size + 1, 4, none⟩ = some (.slice none 0 0) := K2.cell 4
        have z5 : w2.cell? ⟨w.heap.size + 1, 5, none⟩ = some (.slice none 0 0) := K2.cell 5
        have fz : ∀ i, w2.frozen? ⟨w.heap.size + 1, i, none⟩ = false := K2.free
        clear K2 b2
        go_wp2_with fail
        refine bodyPost_ret (by simp [results, Try.results12, go_sem, z0, z1, z2, z3, z4, z5]; try rfl) rfl ?_
        exact F2.out
      · clear hl
        go_enter Try.func12, Try.ntmps12
        go_wp2_with fail
        rw [← HX.out]
        refine DL.out.mono ?_
        rintro r w2 ⟨rfl, b2⟩
        have K2 := KXh.out.below b2
        have F2 := Lib.hid (FIN.out w2 b2)
        have z0 : w2.cell? ⟨w.heap.size + 1, 0, none⟩ = some (.int .i64 0) := K2.cell 0
        have z1 : w2.cell? ⟨w.heap.size + 1, 1, none⟩ = some (.int .i64 0) := K2.cell 1
        have z2 : w2.cell? ⟨w.heap.size + 1, 2, none⟩ = some (.int .i64 0) := K2.cell 2
        have z3 : w2.cell? ⟨w.heap.size + 1, 3, none⟩ = some (.int .i64 0) := K2.cell 3
        have z4 : w2.cell? ⟨w.heap.size + 1, 4, none⟩ = some (.slice none 0 0) := K2.cell 4
        have z5 : w2.cell? ⟨w.heap.size + 1, 5, none⟩ = some (.slice none 0 0) := K2.cell 5
        have fz : ∀ i, w2.frozen? ⟨w.heap.size + 1, i, none⟩ = false := K2.free
        clear K2 b2
        go_wp2_with fail
        refine bodyPost_ret (by simp [results, Try.results12, go_sem, z0, z1, z2, z3, z4, z5]; try rfl) rfl ?_
        exact F2.out
end Go.Proofs.Ytbghjcfepjbppaa
/-
  THE DOCUMENT's TELLER IS TOLD: the first event is refused.
-/
namespace Go.Proofs.Ytbghjcfepjbppaa
open Go.RowKit
/-- what the document's refusal leaves -/
def DpR (w : World) (nodes to id sq : Int) (wv : Value) (E : List E6) (e : Ending) (w' : World) : Prop :=
  ∃ a' c', e = .returned (dtel nodes to id sq wv (.slice a' E.length c')) ∧ w'.ownsRow w.heap.size 42 5 (.slice a' E.length c') E.length (cells6 E) ∧ Below w.heap.size w w'
set_option maxHeartbeats 4000000 in
set_option maxRecDepth 100000 in
theorem dtold_refuse (nodes to id sq m lead : Int) (g o : Nat) (ra A : Option Addr) (n wc rc : Nat) (x : E6) (R E : List E6) (w : World) (hid : id ≠ 0) (hwc : n + 1 ≤ wc) (hwm : wc ≤ maxLen)
    (hA : A = if wc = 1 then some ⟨g, o, none⟩ else some ⟨g, o + 5, none⟩) (hw : Row6 w (some ⟨g, o, none⟩) (x :: E)) (hr : Row6 w ra R) (hl : R.length ≤ 5000) :
    Calls Try.prog 12 #[dtel nodes to id sq (.slice (some ⟨g, o, none⟩) (n + 1) wc) (.slice ra R.length rc), .int .i64 130, .int .i64 m, .int .i64 lead] w (DpR w nodes to id sq (.slice A n (wc - 1)) (R ++ [x])) := by
  have hi : (id == 0) = false := beq_eq_false_iff_ne.2 hid
  have hi2 : (id != 0) = true := bne_iff_ne.2 hid
  have hn1 : ((n : Int) + 1 == 0) = false := by rw [beq_eq_false_iff_ne]; omega
  have hb1 : (1 : Int) ≤ (n : Int) + 1 := by omega
  have hb0 : (0 : Int) < (n : Int) + 1 := by omega
  have hb2 : 1 ≤ wc := by omega
  have hb3 : (wc : Int) ≤ 9223372036854775807 := by unfold maxLen at hwm; omega
  obtain ⟨X, hX, BX, K0, K1, sX⟩ : ∃ X, X = (w.alloc (.cells #[.int .i64 nodes, .int .i64 to, .int .i64 id, .int .i64 sq, .slice (some ⟨g, o, none⟩) (n + 1) wc, .slice ra R.length rc] 28)).alloc (.cells #[.int .i64 0, .int .i64 0, .int .i64 0, .int .i64 0, .slice none 0 0, .slice none 0 0] 28) ∧ Below w.heap.size w X ∧
      Blk X w.heap.size 28 #[.int .i64 nodes, .int .i64 to, .int .i64 id, .int .i64 sq, .slice (some ⟨g, o, none⟩) (n + 1) wc, .slice ra R.length rc] ∧ Blk X (w.heap.size + 1) 28 #[.int .i64 0, .int .i64 0, .int .i64 0, .int .i64 0, .slice none 0 0, .slice none 0 0] ∧ X.heap.size = w.heap.size + 1 + 1 :=
    ⟨_, rfl, ((Below.refl w.heap.size w).alloc (Nat.le_refl _) _).alloc (by simp) _, (Blk.new w 28 _).below ((Below.refl _ _).alloc (Nat.le_refl _) _), by have := Blk.new (w.alloc (.cells #[.int .i64 nodes, .int .i64 to, .int .i64 id, .int .i64 sq, .slice (some ⟨g, o, none⟩) (n + 1) wc, .slice ra R.length rc] 28)) 28 #[.int .i64 0, .int .i64 0, .int .i64 0, .int .i64 0, .slice none 0 0, .slice none 0 0]; simpa using this, by simp⟩
  have BD : Below w.heap.size w X.drew := BX.drew
  obtain ⟨g', o', e', _, ce⟩ := (hw.next BD) 0 (by simp)
  cases e'
  have PT := Lib.hid (put_any (c := rc) x (hr.next BD) hl)
  obtain ⟨F, hF⟩ : ∃ F, F = R ++ [x] := ⟨_, rfl⟩
  rw [← hF] at PT ⊢
  clear hF
  unfold E6.val PutR at PT
  obtain ⟨xa, xb, xc, xk, xq, xm, xp⟩ := x
  have r0 : X.drew.cell? ⟨g, o, none⟩ = some (.int .i64 xa) := ce 0 (by decide)
  have r1 : X.drew.cell? ⟨g, o + 1, none⟩ = some (.int .i64 xb) := ce 1 (by decide)
  have r2 : X.drew.cell? ⟨g, o + 2, none⟩ = some (.int .i64 xc) := ce 2 (by decide)
  have r3 : X.drew.cell? ⟨g, o + 3, none⟩ = some (.string xk) := ce 3 (by decide)
  have r4 : X.drew.cell? ⟨g, o + 4, none⟩ = some (.slice xq xm xp) := ce 4 (by decide)
  have d4 : X.drew.cell? ⟨w.heap.size, 4, none⟩ = some (.slice (some ⟨g, o, none⟩) (n + 1) wc) := K0.cell 4
  have d5 : X.drew.cell? ⟨w.heap.size, 5, none⟩ = some (.slice ra R.length rc) := K0.cell 5
  have HX := Lib.hid hX
  have K0h := Lib.hid (show Blk X.drew w.heap.size 28 _ from K0)
  have K1h := Lib.hid (show Blk X.drew (w.heap.size + 1) 28 _ from K1)
  have FIN : Hid (∀ (w2 : World) (a' : Option Addr) (c' : Nat), w2.ownsRow X.drew.heap.size 42 5 (.slice a' F.length c') F.length (cells6 F) → Below X.drew.heap.size X.drew w2 → ∀ wv, wv = Value.slice A n (wc - 1) →
      DpR w nodes to id sq (.slice A n (wc - 1)) F (.returned (dtel nodes to id sq wv (.slice a' F.length c')))
        ((((((((w2.setCell ⟨w.heap.size, 5, none⟩ (.slice a' F.length c')).setCell ⟨w.heap.size, 4, none⟩ wv).setCell ⟨w.heap.size + 1, 0, none⟩ (.int .i64 nodes)).setCell ⟨w.heap.size + 1, 1, none⟩ (.int .i64 to)).setCell ⟨w.heap.size + 1, 2, none⟩ (.int .i64 id)).setCell ⟨w.heap.size + 1, 3, none⟩ (.int .i64 sq)).setCell ⟨w.heap.size + 1, 4, none⟩ wv).setCell ⟨w.heap.size + 1, 5, none⟩ (.slice a' F.length c'))) := Lib.hid (by
    intro w2 a' c' o2 b2 wv hwv
    subst hwv
    have hs : X.drew.heap.size = w.heap.size + 1 + 1 := sX
    have l0 : w.heap.size ≤ w.heap.size := Nat.le_refl _
    have l1 : w.heap.size ≤ w.heap.size + 1 := Nat.le_succ _
    have b := BD.trans (b2.mono (by omega))
    have st : ∀ (V : World) (y i : Nat) (u : Value), y < X.drew.heap.size → V.ownsRow X.drew.heap.size 42 5 (.slice a' F.length c') F.length (cells6 F) → (V.setCell ⟨y, i, none⟩ u).ownsRow X.drew.heap.size 42 5 (.slice a' F.length c') F.length (cells6 F) := fun V y i u hy ho =>
      ownsRow_setCell_other ho (fun e => by have := (World.ownsRow.lt ho y (by first | exact e | exact e.symm)).1; omega) _
    have y0 : w.heap.size < X.drew.heap.size := by omega
    have y1 : w.heap.size + 1 < X.drew.heap.size := by omega
    exact ⟨a', c', rfl, ownsRow_dn (st _ _ _ _ y1 (st _ _ _ _ y1 (st _ _ _ _ y1 (st _ _ _ _ y1 (st _ _ _ _ y1 (st _ _ _ _ y1 (st _ _ _ _ y0 (st _ _ _ _ y0 o2)))))))) (by omega), bel_set (bel_set (bel_set (bel_set (bel_set (bel_set (bel_set (bel_set b l0 _ _) l0 _ _) l1 _ _) l1 _ _) l1 _ _) l1 _ _) l1 _ _) l1 _ _⟩)
  generalize hQ : DpR w nodes to id sq (.slice A n (wc - 1)) F = Q at *
  generalize F.length = nr at *
  clear hQ hw hr ce hX K0 K1 BX BD
  unfold dtel at *
  go_enter Try.func12, Try.ntmps12
  go_wp2_with fail
  rw [← HX.out]
  go_region_law
    (go_simp; go_at_call 40; refine PT.out.mono ?_; rintro r9 v2 ⟨v', rfl, o2, b2⟩; obtain ⟨a2, c2, rfl⟩ := own_slice o2; have KA := K0h.out.below b2; have KB := K1h.out.below b2; have F2 := Lib.hid (FIN.out v2 a2 c2 o2 b2); have y0 : v2.cell? ⟨w.heap.size, 0, none⟩ = some (.int .i64 nodes) := KA.cell 0; have y1 : v2.cell? ⟨w.heap.size, 1, none⟩ = some (.int .i64 to) := KA.cell 1; have y2 : v2.cell? ⟨w.heap.size, 2, none⟩ = some (.int .i64 id) := KA.cell 2; have y3 : v2.cell? ⟨w.heap.size, 3, none⟩ = some (.int .i64 sq) := KA.cell 3; have y4 : v2.cell? ⟨w.heap.size, 4, none⟩ = some (.slice (some ⟨g, o, none⟩) (n + 1) wc) := KA.cell 4; have y5 : v2.cell? ⟨w.heap.size, 5, none⟩ = some (.slice ra R.length rc) := KA.cell 5; have fy : ∀ i, v2.frozen? ⟨w.heap.size, i, none⟩ = false := KA.free; have z0 : v2.cell? ⟨w.heap.size + 1, 0, none⟩ = some (.int .i64 0) := KB.cell 0; have z1 : v2.cell? ⟨w.heap.size + 1, 1, none⟩ = some (.int .i64 0) := KB.cell 1; have z2 : v2.cell? ⟨w.heap.size + 1, 2, none⟩ = some (.int .i64 0) := KB.cell 2; have z3 : v2.cell? ⟨w.heap.size + 1, 3, none⟩ = some (.int .i64 0) := KB.cell 3; have z4 : v2.cell? ⟨w.heap.size + 1, 4, none⟩ = some (.slice none 0 0) := KB.cell 4; have z5 : v2.cell? ⟨w.heap.size + 1, 5, none⟩ = some (.slice none 0 0) := KB.cell 5; have fz : ∀ i, v2.frozen? ⟨w.heap.size + 1, i, none⟩ = false := KB.free; clear KA KB o2 b2)
  all_goals (go_wp2_with fail)
  all_goals (refine bodyPost_ret (by simp [results, Try.results12, go_sem, z0, z1, z2, z3, z4, z5]; try rfl) rfl ?_; first | exact F2.out (.slice (some ⟨g, o, none⟩) n 0) (by simp [*]) | exact F2.out (.slice (some ⟨g, o + 5, none⟩) n (wc - 1)) (by simp [*]))
end Go.Proofs.Ytbghjcfepjbppaa
/-
  THE DOCUMENT's TELLER: Add.
-/
namespace Go.Proofs.Ytbghjcfepjbppaa
open Go.RowKit
/-- what the document's Add leaves -/
def DaR (w : World) (nodes to id sq : Int) (rv : Value) (E : List E6) (e : Ending) (w' : World) : Prop :=
  ∃ a' c', e = .returned (.tuple #[dtel nodes to id sq (.slice a' E.length c') rv, .int .i64 0]) ∧ w'.ownsRow w.heap.size 42 5 (.slice a' E.length c') E.length (cells6 E) ∧ Below w.heap.size w w'
/-- the blocks ahead -/
def DaX (w X : World) (nodes to id sq : Int) (wv rv : Value) (a b c : Int) (k : ByteArray) (f : Value) : Prop :=
  Below w.heap.size w X ∧ Blk X w.heap.size 28 #[.int .i64 nodes, .int .i64 to, .int .i64 id, .int .i64 sq, wv, rv] ∧ Blk X (w.heap.size + 1) 42 #[.int .i64 a, .int .i64 b, .int .i64 c, .string k, f] ∧
    Blk X (w.heap.size + 1 + 1) 28 #[.int .i64 0, .int .i64 0, .int .i64 0, .int .i64 0, .slice none 0 0, .slice none 0 0] ∧ X.heap.size = w.heap.size + 1 + 1 + 1
theorem daX_start (w : World) (nodes to id sq : Int) (wv rv : Value) (a b c : Int) (k : ByteArray) (f : Value) :
    ∃ X, X = ((w.alloc (.cells #[.int .i64 nodes, .int .i64 to, .int .i64 id, .int .i64 sq, wv, rv] 28)).alloc (.cells #[.int .i64 a, .int .i64 b, .int .i64 c, .string k, f] 42)).alloc (.cells #[.int .i64 0, .int .i64 0, .int .i64 0, .int .i64 0, .slice none 0 0, .slice none 0 0] 28) ∧ DaX w X nodes to id sq wv rv a b c k f := by
  refine ⟨_, rfl, ((((Below.refl w.heap.size w).alloc (Nat.le_refl _) _).alloc (by simp) _).alloc (by simp; omega) _), ?_, ?_, ?_, by simp⟩
  · exact ((Blk.new w 28 _).below ((Below.refl _ _).alloc (Nat.le_refl _) _)).below ((Below.refl _ _).alloc (Nat.le_refl _) _)
  · have := Blk.new (w.alloc (.cells #[.int .i64 nodes, .int .i64 to, .int .i64 id, .int .i64 sq, wv, rv] 28)) 42 #[.int .i64 a, .int .i64 b, .int .i64 c, .string k, f]
    have h1 : (w.alloc (.cells #[.int .i64 nodes, .int .i64 to, .int .i64 id, .int .i64 sq, wv, rv] 28)).heap.size = w.heap.size + 1 := by simp
    rw [h1] at this
    exact this.below ((Below.refl _ _).alloc (Nat.le_refl _) _)
  · have := Blk.new ((w.alloc (.cells #[.int .i64 nodes, .int .i64 to, .int .i64 id, .int .i64 sq, wv, rv] 28)).alloc (.cells #[.int .i64 a, .int .i64 b, .int .i64 c, .string k, f] 42)) 28 #[.int .i64 0, .int .i64 0, .int .i64 0, .int .i64 0, .slice none 0 0, .slice none 0 0]
    have h1 : ((w.alloc (.cells #[.int .i64 nodes, .int .i64 to, .int .i64 id, .int .i64 sq, wv, rv] 28)).alloc (.cells #[.int .i64 a, .int .i64 b, .int .i64 c, .string k, f] 42)).heap.size = w.heap.size + 1 + 1 := by simp
    rw [h1] at this
    exact this
theorem DaX.next {w X X' : World} {nodes to id sq : Int} {wv rv : Value} {a b c : Int} {k : ByteArray} {f : Value} (h : DaX w X nodes to id sq wv rv a b c k f) (b' : Below X.heap.size X X') :
    Below w.heap.size w X' ∧ Blk X' w.heap.size 28 #[.int .i64 nodes, .int .i64 to, .int .i64 id, .int .i64 sq, wv, rv] ∧ Blk X' (w.heap.size + 1) 42 #[.int .i64 a, .int .i64 b, .int .i64 c, .string k, f] ∧
    Blk X' (w.heap.size + 1 + 1) 28 #[.int .i64 0, .int .i64 0, .int .i64 0, .int .i64 0, .slice none 0 0, .slice none 0 0] := by
  obtain ⟨b1, k0, k1, k2, hs⟩ := h
  exact ⟨b1.trans (b'.mono (by omega)), k0.below b', k1.below b', k2.below b'⟩
/-- the answer's cells are laid -/
theorem dtel_end {w v : World} (hb : Below w.heap.size w v) {Y : Nat} (hY : w.heap.size ≤ Y) (a b c d : Value) (wv rv : Value) :
    Below w.heap.size w ((((((v.setCell ⟨Y, 0, none⟩ a).setCell ⟨Y, 1, none⟩ b).setCell ⟨Y, 2, none⟩ c).setCell ⟨Y, 3, none⟩ d).setCell ⟨Y, 4, none⟩ wv).setCell ⟨Y, 5, none⟩ rv) :=
  bel_set (bel_set (bel_set (bel_set (bel_set (bel_set hb hY _ _) hY _ _) hY _ _) hY _ _) hY _ _) hY _ _
section
variable (nodes to id sq : Int) (wa ra : Option Addr) (wn wc rn rc : Nat) (a b c : Int) (k : ByteArray) (p : Option Addr) (m cp : Nat) (w : World)
set_option maxHeartbeats 2000000 in
set_option maxRecDepth 100000 in
theorem dadd_bad (CK : ∀ W, Below w.heap.size w W → Calls Try.prog 39 #[evV 1 1 c k (.slice p m cp)] W fun e w' => e = .returned (.int .i64 1) ∧ Below W.heap.size W w') :
    Calls Try.prog 9 #[dtel nodes to id sq (.slice wa wn wc) (.slice ra rn rc), evV a b c k (.slice p m cp)] w fun e w' => e = .returned (.tuple #[dtel nodes to id sq (.slice wa wn wc) (.slice ra rn rc), .int .i64 1]) ∧ Below w.heap.size w w' := by
  obtain ⟨X, hX, DX⟩ := daX_start w nodes to id sq (.slice wa wn wc) (.slice ra rn rc) 1 1 c k (.slice p m cp)
  have HX := Lib.hid hX
  have D1 := Lib.hid DX
  have CKh := Lib.hid (CK _ D1.out.1)
  clear DX hX CK
  unfold dtel evV at *
  go_enter Try.func9, Try.ntmps9
  go_wp2_with fail
  rw [← HX.out]
  refine CKh.out.mono ?_
  rintro e v ⟨rfl, bv⟩
  obtain ⟨BV, K0, _, K2⟩ := D1.out.next bv
  have y0 : v.cell? ⟨w.heap.size, 0, none⟩ = some (.int .i64 nodes) := K0.cell 0
  have y1 : v.cell? ⟨w.heap.size, 1, none⟩ = some (.int .i64 to) := K0.cell 1
  have y2 : v.cell? ⟨w.heap.size, 2, none⟩ = some (.int .i64 id) := K0.cell 2
  have y3 : v.cell? ⟨w.heap.size, 3, none⟩ = some (.int .i64 sq) := K0.cell 3
  have y4 : v.cell? ⟨w.heap.size, 4, none⟩ = some (.slice wa wn wc) := K0.cell 4
  have y5 : v.cell? ⟨w.heap.size, 5, none⟩ = some (.slice ra rn rc) := K0.cell 5
  have z0 : v.cell? ⟨w.heap.size + 1 + 1, 0, none⟩ = some (.int .i64 0) := K2.cell 0
  have z1 : v.cell? ⟨w.heap.size + 1 + 1, 1, none⟩ = some (.int .i64 0) := K2.cell 1
  have z2 : v.cell? ⟨w.heap.size + 1 + 1, 2, none⟩ = some (.int .i64 0) := K2.cell 2
  have z3 : v.cell? ⟨w.heap.size + 1 + 1, 3, none⟩ = some (.int .i64 0) := K2.cell 3
  have z4 : v.cell? ⟨w.heap.size + 1 + 1, 4, none⟩ = some (.slice none 0 0) := K2.cell 4
  have z5 : v.cell? ⟨w.heap.size + 1 + 1, 5, none⟩ = some (.slice none 0 0) := K2.cell 5
  have fy : ∀ i, v.frozen? ⟨w.heap.size + 1 + 1, i, none⟩ = false := K2.free
  have FB := Lib.hid BV
  clear D1 CKh HX bv BV K0 K2
  go_wp2_with fail
  refine bodyPost_ret (by simp [results, Try.results9, go_sem, z0, z1, z2, z3, z4, z5]; try rfl) rfl ?_
  exact ⟨rfl, dtel_end FB.out (by omega) _ _ _ _ _ _⟩
set_option maxHeartbeats 2000000 in
set_option maxRecDepth 100000 in
theorem dadd_full (hn : 256 ≤ wn) (CK : ∀ W, Below w.heap.size w W → Calls Try.prog 39 #[evV 1 1 c k (.slice p m cp)] W fun e w' => e = .returned (.int .i64 0) ∧ Below W.heap.size W w') :
    Calls Try.prog 9 #[dtel nodes to id sq (.slice wa wn wc) (.slice ra rn rc), evV a b c k (.slice p m cp)] w fun e w' => e = .returned (.tuple #[dtel nodes to id sq (.slice wa wn wc) (.slice ra rn rc), .int .i64 7]) ∧ Below w.heap.size w w' := by
  obtain ⟨X, hX, DX⟩ := daX_start w nodes to id sq (.slice wa wn wc) (.slice ra rn rc) 1 1 c k (.slice p m cp)
  have HX := Lib.hid hX
  have D1 := Lib.hid DX
  have hnI : (256 : Int) ≤ (wn : Int) := by omega
  have CKh := Lib.hid (CK _ D1.out.1)
  clear DX hX CK
  unfold dtel evV at *
  go_enter Try.func9, Try.ntmps9
  go_wp2_with fail
  rw [← HX.out]
  refine CKh.out.mono ?_
  rintro e v ⟨rfl, bv⟩
  obtain ⟨BV, K0, _, K2⟩ := D1.out.next bv
  have y0 : v.cell? ⟨w.heap.size, 0, none⟩ = some (.int .i64 nodes) := K0.cell 0
  have y1 : v.cell? ⟨w.heap.size, 1, none⟩ = some (.int .i64 to) := K0.cell 1
  have y2 : v.cell? ⟨w.heap.size, 2, none⟩ = some (.int .i64 id) := K0.cell 2
  have y3 : v.cell? ⟨w.heap.size, 3, none⟩ = some (.int .i64 sq) := K0.cell 3
  have y4 : v.cell? ⟨w.heap.size, 4, none⟩ = some (.slice wa wn wc) := K0.cell 4
  have y5 : v.cell? ⟨w.heap.size, 5, none⟩ = some (.slice ra rn rc) := K0.cell 5
  have z0 : v.cell? ⟨w.heap.size + 1 + 1, 0, none⟩ = some (.int .i64 0) := K2.cell 0
  have z1 : v.cell? ⟨w.heap.size + 1 + 1, 1, none⟩ = some (.int .i64 0) := K2.cell 1
  have z2 : v.cell? ⟨w.heap.size + 1 + 1, 2, none⟩ = some (.int .i64 0) := K2.cell 2
  have z3 : v.cell? ⟨w.heap.size + 1 + 1, 3, none⟩ = some (.int .i64 0) := K2.cell 3
  have z4 : v.cell? ⟨w.heap.size + 1 + 1, 4, none⟩ = some (.slice none 0 0) := K2.cell 4
  have z5 : v.cell? ⟨w.heap.size + 1 + 1, 5, none⟩ = some (.slice none 0 0) := K2.cell 5
  have fy : ∀ i, v.frozen? ⟨w.heap.size + 1 + 1, i, none⟩ = false := K2.free
  have FB := Lib.hid BV
  clear D1 CKh HX bv BV K0 K2
  go_wp2_with fail
  refine bodyPost_ret (by simp [results, Try.results9, go_sem, z0, z1, z2, z3, z4, z5]; try rfl) rfl ?_
  exact ⟨rfl, dtel_end FB.out (by omega) _ _ _ _ _ _⟩
end
set_option maxHeartbeats 4000000 in
set_option maxRecDepth 100000 in
theorem dadd_ok (nodes to id sq : Int) (wa ra : Option Addr) (wc rn rc : Nat) (a b c : Int) (k : ByteArray) (p : Option Addr) (m cp : Nat) (w : World) {E : List E6} (h : Row6 w wa E) (hn : E.length < 256)
    (CK : ∀ W, Below w.heap.size w W → Calls Try.prog 39 #[evV 1 1 c k (.slice p m cp)] W fun e w' => e = .returned (.int .i64 0) ∧ Below W.heap.size W w') :
    Calls Try.prog 9 #[dtel nodes to id sq (.slice wa E.length wc) (.slice ra rn rc), evV a b c k (.slice p m cp)] w (DaR w nodes to id sq (.slice ra rn rc) (E ++ [⟨0, 0, c, k, p, m, cp⟩])) := by
  obtain ⟨X, hX, DX⟩ := daX_start w nodes to id sq (.slice wa E.length wc) (.slice ra rn rc) 1 1 c k (.slice p m cp)
  have HX := Lib.hid hX
  have D1 := Lib.hid DX
  have PT := Lib.hid (fun W (b : Below w.heap.size w W) => put_any (c := wc) ⟨0, 0, c, k, p, m, cp⟩ (h.next b) (by omega))
  obtain ⟨F, hF⟩ : ∃ F, F = E ++ [(⟨0, 0, c, k, p, m, cp⟩ : E6)] := ⟨_, rfl⟩
  rw [← hF] at PT ⊢
  clear hF h
  unfold E6.val PutR at PT
  simp only at PT
  have hnI : (E.length : Int) < 256 := by omega
  generalize E.length = wn at *
  have CKh := Lib.hid (CK _ D1.out.1)
  have FIN : Hid (∀ (v2 : World) (a' : Option Addr) (c' H : Nat), w.heap.size + 1 + 1 + 1 ≤ H → v2.ownsRow H 42 5 (.slice a' F.length c') F.length (cells6 F) → Below w.heap.size w v2 →
      DaR w nodes to id sq (.slice ra rn rc) F (.returned (.tuple #[dtel nodes to id sq (.slice a' F.length c') (.slice ra rn rc), .int .i64 0]))
        (((((((v2.setCell ⟨w.heap.size, 4, none⟩ (.slice a' F.length c')).setCell ⟨w.heap.size + 1 + 1, 0, none⟩ (.int .i64 nodes)).setCell ⟨w.heap.size + 1 + 1, 1, none⟩ (.int .i64 to)).setCell ⟨w.heap.size + 1 + 1, 2, none⟩ (.int .i64 id)).setCell ⟨w.heap.size + 1 + 1, 3, none⟩ (.int .i64 sq)).setCell ⟨w.heap.size + 1 + 1, 4, none⟩ (.slice a' F.length c')).setCell ⟨w.heap.size + 1 + 1, 5, none⟩ (.slice ra rn rc))) := Lib.hid (by
    intro v2 a' c' H hH o2 b2
    have st : ∀ (V : World) (y i : Nat) (u : Value), y < H → V.ownsRow H 42 5 (.slice a' F.length c') F.length (cells6 F) → (V.setCell ⟨y, i, none⟩ u).ownsRow H 42 5 (.slice a' F.length c') F.length (cells6 F) := fun V y i u hy ho =>
      ownsRow_setCell_other ho (fun e => by have := (World.ownsRow.lt ho y (by first | exact e | exact e.symm)).1; omega) _
    have y0 : w.heap.size < H := by omega
    have y1 : w.heap.size + 1 + 1 < H := by omega
    exact ⟨a', c', rfl, ownsRow_dn (st _ _ _ _ y1 (st _ _ _ _ y1 (st _ _ _ _ y1 (st _ _ _ _ y1 (st _ _ _ _ y1 (st _ _ _ _ y1 (st _ _ _ _ y0 o2))))))) (by omega), dtel_end (bel_set b2 (Nat.le_refl _) _ _) (by omega) _ _ _ _ _ _⟩)
  generalize hQ : DaR w nodes to id sq (.slice ra rn rc) F = Q at *
  generalize F.length = nr at *
  clear DX hX CK hQ
  unfold dtel evV at *
  go_enter Try.func9, Try.ntmps9
  go_wp2_with fail
  rw [← HX.out]
  refine CKh.out.mono ?_
  rintro e v ⟨rfl, bv⟩
  obtain ⟨BV, K0, K1, K2⟩ := D1.out.next bv
  have hsv : w.heap.size + 1 + 1 + 1 ≤ v.heap.size := by have := bv.size; have := D1.out.2.2.2.2; omega
  have y4 : v.cell? ⟨w.heap.size, 4, none⟩ = some (.slice wa wn wc) := K0.cell 4
  have e0' : v.cell? ⟨w.heap.size + 1, 0, none⟩ = some (.int .i64 1) := K1.cell 0
  have e1' : v.cell? ⟨w.heap.size + 1, 1, none⟩ = some (.int .i64 1) := K1.cell 1
  have e2' : v.cell? ⟨w.heap.size + 1, 2, none⟩ = some (.int .i64 c) := K1.cell 2
  have e3' : v.cell? ⟨w.heap.size + 1, 3, none⟩ = some (.string k) := K1.cell 3
  have e4' : v.cell? ⟨w.heap.size + 1, 4, none⟩ = some (.slice p m cp) := K1.cell 4
  have fz' : ∀ i, v.frozen? ⟨w.heap.size + 1, i, none⟩ = false := K1.free
  obtain ⟨V5, hV5, BV5, K05, K25, hs5⟩ : ∃ V5, V5 = (v.setCell ⟨w.heap.size + 1, 0, none⟩ (.int .i64 0)).setCell ⟨w.heap.size + 1, 1, none⟩ (.int .i64 0) ∧ Below w.heap.size w V5 ∧ Blk V5 w.heap.size 28 #[.int .i64 nodes, .int .i64 to, .int .i64 id, .int .i64 sq, .slice wa wn wc, .slice ra rn rc] ∧
      Blk V5 (w.heap.size + 1 + 1) 28 #[.int .i64 0, .int .i64 0, .int .i64 0, .int .i64 0, .slice none 0 0, .slice none 0 0] ∧ V5.heap.size = v.heap.size := by
    have f1 : Fr v ((v.setCell ⟨w.heap.size + 1, 0, none⟩ (.int .i64 0)).setCell ⟨w.heap.size + 1, 1, none⟩ (.int .i64 0)) (fun q => q = w.heap.size + 1) := ((Fr.refl v (fun q => q = w.heap.size + 1)).set (w.heap.size + 1) 0 _ (.inl rfl)).set (w.heap.size + 1) 1 _ (.inl rfl)
    exact ⟨_, rfl, bel_set (bel_set BV (Nat.le_succ _) _ _) (Nat.le_succ _) _ _, K0.fr f1 (by omega), K2.fr f1 (by omega), by simp⟩
  have HV5 := Lib.hid hV5
  have PTh := Lib.hid (PT.out V5 BV5)
  have B5 := Lib.hid BV5
  have K0h := Lib.hid K05
  have K2h := Lib.hid K25
  have hs5' : w.heap.size + 1 + 1 + 1 ≤ V5.heap.size := by omega
  clear D1 CKh HX bv BV K0 K1 K2 hV5 BV5 K05 K25 PT
  go_wp2_with fail
  rw [← HV5.out]
  refine PTh.out.mono ?_
  rintro r9 v2 ⟨v', rfl, o2, b2⟩
  obtain ⟨a2, c2, rfl⟩ := own_slice o2
  have KA := K0h.out.below b2
  have KB := K2h.out.below b2
  have F2 := Lib.hid (FIN.out v2 a2 c2 _ hs5' o2 (B5.out.trans (b2.mono (by omega))))
  have y0 : v2.cell? ⟨w.heap.size, 0, none⟩ = some (.int .i64 nodes) := KA.cell 0
  have y1 : v2.cell? ⟨w.heap.size, 1, none⟩ = some (.int .i64 to) := KA.cell 1
  have y2 : v2.cell? ⟨w.heap.size, 2, none⟩ = some (.int .i64 id) := KA.cell 2
  have y3 : v2.cell? ⟨w.heap.size, 3, none⟩ = some (.int .i64 sq) := KA.cell 3
  have y5 : v2.cell? ⟨w.heap.size, 5, none⟩ = some (.slice ra rn rc) := KA.cell 5
  have y4' : v2.cell? ⟨w.heap.size, 4, none⟩ = some (.slice wa wn wc) := KA.cell 4
  have fy : ∀ i, v2.frozen? ⟨w.heap.size, i, none⟩ = false := KA.free
  have z0 : v2.cell? ⟨w.heap.size + 1 + 1, 0, none⟩ = some (.int .i64 0) := KB.cell 0
  have z1 : v2.cell? ⟨w.heap.size + 1 + 1, 1, none⟩ = some (.int .i64 0) := KB.cell 1
  have z2 : v2.cell? ⟨w.heap.size + 1 + 1, 2, none⟩ = some (.int .i64 0) := KB.cell 2
  have z3 : v2.cell? ⟨w.heap.size + 1 + 1, 3, none⟩ = some (.int .i64 0) := KB.cell 3
  have z4 : v2.cell? ⟨w.heap.size + 1 + 1, 4, none⟩ = some (.slice none 0 0) := KB.cell 4
  have z5 : v2.cell? ⟨w.heap.size + 1 + 1, 5, none⟩ = some (.slice none 0 0) := KB.cell 5
  have fz2 : ∀ i, v2.frozen? ⟨w.heap.size + 1 + 1, i, none⟩ = false := KB.free
  clear KA KB o2 b2 y4 e0' e1' e2' e3' e4' fz' HV5 PTh B5 K0h K2h FIN
  go_wp2_with fail
  refine bodyPost_ret (by simp [results, Try.results9, go_sem, z0, z1, z2, z3, z4, z5]; try rfl) rfl ?_
  exact F2.out
end Go.Proofs.Ytbghjcfepjbppaa
/-
  A TELLER's Add, in every case.
-/
namespace Go.Proofs.Ytbghjcfepjbppaa
open Go.RowKit
section
variable {w : World} {t : Nat} {nodes to id sq : Int} {rv : Value}
set_option maxHeartbeats 2000000 in
set_option maxRecDepth 100000 in
theorem add_bad (a b c : Int) (k : ByteArray) (p : Option Addr) (m cp : Nat)
    (CK : ∀ W, Below w.heap.size w W → Calls Try.prog 41 #[evV 1 1 c k (.slice p m cp)] W fun e w' => e = .returned (.int .i64 1) ∧ Below W.heap.size W w') :
    Calls Try.prog 11 #[.pointer (some ⟨t, 0, none⟩), evV a b c k (.slice p m cp)] w fun e w' => e = .returned (.int .i64 1) ∧ Below w.heap.size w w' := by
  obtain ⟨w1, hw1, K1, B1, hs1⟩ : ∃ w1, w1 = w.alloc (.cells #[.int .i64 a, .int .i64 b, .int .i64 c, .string k, .slice p m cp] 31) ∧ Blk w1 w.heap.size 31 #[.int .i64 a, .int .i64 b, .int .i64 c, .string k, .slice p m cp] ∧ Below w.heap.size w w1 ∧ w1.heap.size = w.heap.size + 1 :=
    ⟨_, rfl, heap_alloc_new w _, (Below.refl w.heap.size w).alloc (Nat.le_refl _) _, by simp⟩
  have NU := Lib.hid (fun W => numbered_any a b c 1 0 k p m cp W (by omega))
  have CKh := Lib.hid CK
  have B1h := Lib.hid B1
  have W1 := Lib.hid hw1
  have e0 : w1.cell? ⟨w.heap.size, 0, none⟩ = some (.int .i64 a) := K1.cell 0
  have e1 : w1.cell? ⟨w.heap.size, 1, none⟩ = some (.int .i64 b) := K1.cell 1
  have e2 : w1.cell? ⟨w.heap.size, 2, none⟩ = some (.int .i64 c) := K1.cell 2
  have e3 : w1.cell? ⟨w.heap.size, 3, none⟩ = some (.string k) := K1.cell 3
  have e4 : w1.cell? ⟨w.heap.size, 4, none⟩ = some (.slice p m cp) := K1.cell 4
  clear K1 B1 hw1 CK
  unfold evV at *
  go_enter Try.func11, Try.ntmps11
  go_wp2_with fail
  rw [← W1.out]
  go_wp2_with fail
  refine (NU.out _).mono ?_
  rintro e w2 ⟨rfl, b2⟩
  have B2 := Lib.hid (B1h.out.trans (b2.mono (by omega)))
  clear b2 e0 e1 e2 e3 e4
  go_wp2_with fail
  refine (CKh.out _ B2.out).mono ?_
  rintro e w3 ⟨rfl, b3⟩
  have B3 := Lib.hid (B2.out.trans (b3.mono (by have := B2.out.size; omega)))
  clear b3
  go_wp2_with fail
  go_ret
  exact ⟨rfl, B3.out⟩
set_option maxHeartbeats 2000000 in
set_option maxRecDepth 100000 in
theorem add_full {ua : Option Addr} {n uc : Nat} (T : Blk w t 98 (tel nodes to id sq (.slice ua n uc) rv)) (hn : 256 ≤ n) (a b c : Int) (k : ByteArray) (p : Option Addr) (m cp : Nat)
    (CK : ∀ W, Below w.heap.size w W → Calls Try.prog 41 #[evV 1 1 c k (.slice p m cp)] W fun e w' => e = .returned (.int .i64 0) ∧ Below W.heap.size W w') :
    Calls Try.prog 11 #[.pointer (some ⟨t, 0, none⟩), evV a b c k (.slice p m cp)] w fun e w' => e = .returned (.int .i64 7) ∧ Below w.heap.size w w' := by
  obtain ⟨w1, hw1, K1, B1, hs1⟩ : ∃ w1, w1 = w.alloc (.cells #[.int .i64 a, .int .i64 b, .int .i64 c, .string k, .slice p m cp] 31) ∧ Blk w1 w.heap.size 31 #[.int .i64 a, .int .i64 b, .int .i64 c, .string k, .slice p m cp] ∧ Below w.heap.size w w1 ∧ w1.heap.size = w.heap.size + 1 :=
    ⟨_, rfl, heap_alloc_new w _, (Below.refl w.heap.size w).alloc (Nat.le_refl _) _, by simp⟩
  have NU := Lib.hid (fun W => numbered_any a b c 1 0 k p m cp W (by omega))
  have CKh := Lib.hid CK
  have B1h := Lib.hid B1
  have W1 := Lib.hid hw1
  have Th := Lib.hid T
  have hlt := T.lt
  have hnI : (256 : Int) ≤ (n : Int) := by omega
  have e0 : w1.cell? ⟨w.heap.size, 0, none⟩ = some (.int .i64 a) := K1.cell 0
  have e1 : w1.cell? ⟨w.heap.size, 1, none⟩ = some (.int .i64 b) := K1.cell 1
  have e2 : w1.cell? ⟨w.heap.size, 2, none⟩ = some (.int .i64 c) := K1.cell 2
  have e3 : w1.cell? ⟨w.heap.size, 3, none⟩ = some (.string k) := K1.cell 3
  have e4 : w1.cell? ⟨w.heap.size, 4, none⟩ = some (.slice p m cp) := K1.cell 4
  clear K1 B1 hw1 CK T
  unfold evV at *
  go_enter Try.func11, Try.ntmps11
  go_wp2_with fail
  rw [← W1.out]
  go_wp2_with fail
  refine (NU.out _).mono ?_
  rintro e w2 ⟨rfl, b2⟩
  have B2 := Lib.hid (B1h.out.trans (b2.mono (by omega)))
  clear b2 e0 e1 e2 e3 e4
  go_wp2_with fail
  refine (CKh.out _ B2.out).mono ?_
  rintro e w3 ⟨rfl, b3⟩
  have B3 := Lib.hid (B2.out.trans (b3.mono (by have := B2.out.size; omega)))
  have c4 : w3.cell? ⟨t, 4, none⟩ = some (.slice ua n uc) := (Th.out.at_ B3.out hlt).cell 4
  clear b3
  go_wp2_with fail
  go_ret
  exact ⟨rfl, B3.out⟩
end
/-- fields of a row that lie off some blocks -/
def FOff (LE : List EvD) (cs : List Value) (P : Nat → Prop) : Prop := ∀ i (hi : i < LE.length) q cp, (∀ j, j < 5 → cs[i * 5 + j]? = (LE[i].cells q cp)[j]?) → ∀ p, q = some p → ¬ P p.block
/-- a row of events behind Add -/
theorem EvA.add {B : Nat} {w w' : World} {t : Nat} {nodes to id sq : Int} {LE : List EvD} {wv rv : Value} {cs : List Value} {a b c : Int} {k : ByteArray} {L : List Fld} {e : Ending} (h : EvA B w LE wv cs) (hB : t < B) (hBw : B ≤ w.heap.size)
    (A : AddR w t B nodes to id sq wv LE.length cs rv a b c k L e w') :
    e = .returned (.int .i64 0) ∧ ∃ g cap p cp, Blk w' t 98 (tel nodes to id sq (.slice (some ⟨g, 0, none⟩) (LE ++ [(⟨a, b, c, k, L⟩ : EvD)]).length cap) rv) ∧ EvA B w' (LE ++ [⟨a, b, c, k, L⟩]) (.slice (some ⟨g, 0, none⟩) (LE ++ [(⟨a, b, c, k, L⟩ : EvD)]).length cap) (cs ++ encE a b c k (.slice p L.length cp)) ∧
      Fr w w' (fun q => q = t ∨ wv.ownBlock = some q) ∧ (wv.ownBlock = some g ∨ w.heap.size ≤ g) ∧ (∀ ad, p = some ad → w.heap.size ≤ ad.block) := by
  obtain ⟨he, g, cap, p, cp, T', ho, hF, hp, f, hat⟩ := A
  have hcl : cs.length = LE.length * 5 := h.own.1
  have hln : (LE ++ [(⟨a, b, c, k, L⟩ : EvD)]).length = LE.length + 1 := by simp
  refine ⟨he, g, cap, p, cp, by rw [hln]; exact T', ⟨by rw [hln]; exact ho, fun i hi => ?_⟩, f, hat, fun ad e => (hp ad e).1⟩
  rw [hln] at hi
  rcases Nat.lt_or_ge i LE.length with h1 | h1
  · obtain ⟨q, c', e1, nn, hb⟩ := h.gc i h1
    rw [List.getElem_append_left h1]
    refine ⟨q, c', fun j hj => by rw [List.getElem?_append_left (by omega)]; exact e1 j hj, nn.fr f (fun ad e hh => ?_), fun ad e => ⟨(hb ad e).1, Nat.lt_of_lt_of_le (hb ad e).2.1 f.size, fun hh => ?_⟩⟩
    · rcases hh with hh | hh
      · have := (hb ad e).1; omega
      · exact (hb ad e).2.2 hh
    · have hpg : g = ad.block := by simpa [Value.ownBlock] using hh
      rcases hat with e' | e'
      · exact (hb ad e).2.2 (by rw [e', hpg])
      · have := (hb ad e).2.1; omega
  · obtain rfl : i = LE.length := by omega
    rw [List.getElem_append_right (Nat.le_refl _)]
    simp only [Nat.sub_self, List.getElem_cons_zero]
    refine ⟨p, cp, fun j hj => by rw [List.getElem?_append_right (by omega), show LE.length * 5 + j - cs.length = j by omega]; rfl, hF, fun ad e => ⟨by have := (hp ad e).1; omega, (hp ad e).2.1, fun hh => ?_⟩⟩
    have hpg : g = ad.block := by simpa [Value.ownBlock] using hh
    exact (hp ad e).2.2 hpg.symm
end Go.Proofs.Ytbghjcfepjbppaa
