/-
  WHAT THE ROWS REST ON, part 2: Do Do2 Flx Do3 Name Dk Cost Keep Small Small2.
-/
import Derived.Deep.RegionHeld3
import Derived.Laws.IdiomStrings
import Derived.Laws.BytesArg
import Derived.Test.YthnnenhpcceckaaGreatPart1
/-
  A CHANGE IS DONE: trim, move, drop.
-/
namespace Go.Proofs.YthnnenhpcceckaaGreat
open Go.RowKit
/-- a change -/
inductive Chg where
  | put (f : Nm) (at_ : Nat) (s : ByteArray)
  | trim (f : Nm) (n : Nat)
  | move (f t : Nm)
  | drop (f : Nm)
/-- as it lies in the row -/
def Chg.val : Chg → Value
  | .put f a s => .iface 60 (.agg #[.string f, .int .i64 a, .string s])
  | .trim f n => .iface 85 (.agg #[.string f, .int .i64 n])
  | .move f t => .iface 87 (.agg #[.string f, .string t])
  | .drop f => .iface 90 (.agg #[.string f])
/-- files behind a change -/
def Chg.doF (fs : Fm) : Chg → Fm
  | .put f a s => YthnnenhpcceckaaGreat.put fs f (splice (gl fs f) a (bl s))
  | .trim f n => YthnnenhpcceckaaGreat.put fs f ((gl fs f).take n)
  | .move f t => YthnnenhpcceckaaGreat.put (del fs f) t (gl fs f)
  | .drop f => del fs f
/-- it may be done -/
def Chg.may (fs : Fm) : Chg → Prop
  | .put f a s => f.size ≤ 64 ∧ a ≤ (gl fs f).length ∧ a + s.size ≤ 4194304
  | .trim f n => f.size ≤ 64 ∧ n ≤ (gl fs f).length
  | .move f t => f.size ≤ 64 ∧ t.size ≤ 64
  | .drop f => f.size ≤ 64
/-- files of which no number is too great -/
structure Good (fs : Fm) (m : Nat) : Prop where
  uniq : Uniq fs
  few : fs.length ≤ m
  small : ∀ p ∈ fs, p.2.length ≤ 4194304
theorem gl_small {fs : Fm} (h : ∀ p ∈ fs, p.2.length ≤ 4194304) (s : Nm) : (gl fs s).length ≤ 4194304 := by
  unfold gl get
  cases hf : fs.find? (fun p => decide (p.1 = s)) with
  | none => exact Nat.zero_le _
  | some p => exact h p (List.mem_of_find?_eq_some hf)
theorem Good.gl_le {fs : Fm} {m : Nat} (h : Good fs m) (s : Nm) : (gl fs s).length ≤ 4194304 := gl_small h.small s
theorem gl_le_sz {fs : Fm} (h : Uniq fs) (s : Nm) : (gl fs s).length ≤ sz fs := by have := sz_del h s; omega
theorem sz_small {fs : Fm} (h : ∀ p ∈ fs, p.2.length ≤ 4194304) : sz fs ≤ fs.length * 4194304 := by
  unfold sz
  induction fs with
  | nil => exact Nat.le_refl _
  | cons p fs ih =>
    have h1 := h p (by simp)
    have h2 := ih (fun q hq => h q (List.mem_cons_of_mem _ hq))
    rw [List.map_cons, List.sum_cons, List.length_cons, Nat.succ_mul]
    omega
theorem Good.sz_le {fs : Fm} {m : Nat} (h : Good fs m) : sz fs ≤ m * 4194304 :=
  Nat.le_trans (sz_small h.small) (Nat.mul_le_mul_right _ h.few)
theorem Good.del {fs : Fm} {m : Nat} (h : Good fs m) (s : Nm) : Good (del fs s) m :=
  ⟨uniq_del h.uniq s, Nat.le_trans (len_del fs s) h.few, fun p hp => h.small p (List.mem_filter.1 hp).1⟩
theorem Good.put {fs : Fm} {m : Nat} (h : Good fs m) (s : Nm) {l : List UInt8} (hl : l.length ≤ 4194304) : Good (put fs s l) (m + 1) :=
  ⟨uniq_put h.uniq s l, Nat.le_trans (len_put fs s l) (by have := h.few; omega), fun p hp => by
    rcases List.mem_cons.1 hp with rfl | hp
    · exact hl
    · exact h.small p (List.mem_filter.1 hp).1⟩
theorem Good.doF {fs : Fm} {m : Nat} (h : Good fs m) {c : Chg} (hc : c.may fs) : Good (c.doF fs) (m + 1) := by
  cases c with
  | put f a s =>
    refine h.put f ?_
    rw [splice_len hc.2.1, bl_len]
    have := h.gl_le f
    have := hc.2.2
    omega
  | trim f n =>
    refine h.put f ?_
    have := h.gl_le f
    simp; omega
  | move f t => exact (h.del f).put t (h.gl_le f)
  | drop f =>
    have := h.del f
    exact ⟨this.1, Nat.le_succ_of_le this.2, this.3⟩
/-- what a change leaves -/
def Done (w : World) (B D M n T o : Nat) (cs : Array Value) (V : Nm → Value) (fs' : Fm) (e : Ending) (w' : World) : Prop :=
  e = .returned (.tuple #[]) ∧ ∃ V', Fls w' B M n fs' V' ∧ Blk w' D T (cs.setIfInBounds (o + 1) (.int .i64 (sz fs'))) ∧ Fr w w' (fun q => q = D ∨ Foot M V q) ∧ ∀ q, Foot M V' q → Foot M V q ∨ w.heap.size ≤ q
theorem foot_upd {M : Nat} {V : Nm → Value} {s : Nm} {v : Value} {q : Nat} (h : Foot M (upd V s v) q) : Foot M V q ∨ v.ownBlock = some q := by
  rcases h with rfl | ⟨t, e⟩
  · exact .inl (.inl rfl)
  · by_cases ht : t = s
    · subst ht; rw [upd_same] at e; exact .inr e
    · rw [upd_other V v ht] at e; exact .inl (.inr ⟨t, e⟩)
theorem ta_60_60 (w : World) (x : Value) : Sem.run Tryz.prog (Instr.typeAssert (.iface 60 x) 62 60 true) w = .ok (.tuple #[x, .bool true]) w := by kernel_rfl
theorem ta_84_60 (w : World) (x : Value) : Sem.run Tryz.prog (Instr.typeAssert (.iface 85 x) 62 60 true) w = .ok (.tuple #[.agg #[.string ⟨#[]⟩, .int .i64 0, .string ⟨#[]⟩], .bool false]) w := by kernel_rfl
theorem ta_84_84 (w : World) (x : Value) : Sem.run Tryz.prog (Instr.typeAssert (.iface 85 x) 62 85 true) w = .ok (.tuple #[x, .bool true]) w := by kernel_rfl
theorem ta_86_60 (w : World) (x : Value) : Sem.run Tryz.prog (Instr.typeAssert (.iface 87 x) 62 60 true) w = .ok (.tuple #[.agg #[.string ⟨#[]⟩, .int .i64 0, .string ⟨#[]⟩], .bool false]) w := by kernel_rfl
theorem ta_86_84 (w : World) (x : Value) : Sem.run Tryz.prog (Instr.typeAssert (.iface 87 x) 62 85 true) w = .ok (.tuple #[.agg #[.string ⟨#[]⟩, .int .i64 0], .bool false]) w := by kernel_rfl
theorem ta_86_86 (w : World) (x : Value) : Sem.run Tryz.prog (Instr.typeAssert (.iface 87 x) 62 87 true) w = .ok (.tuple #[x, .bool true]) w := by kernel_rfl
theorem ta_89_60 (w : World) (x : Value) : Sem.run Tryz.prog (Instr.typeAssert (.iface 90 x) 62 60 true) w = .ok (.tuple #[.agg #[.string ⟨#[]⟩, .int .i64 0, .string ⟨#[]⟩], .bool false]) w := by kernel_rfl
theorem ta_89_84 (w : World) (x : Value) : Sem.run Tryz.prog (Instr.typeAssert (.iface 90 x) 62 85 true) w = .ok (.tuple #[.agg #[.string ⟨#[]⟩, .int .i64 0], .bool false]) w := by kernel_rfl
theorem ta_89_86 (w : World) (x : Value) : Sem.run Tryz.prog (Instr.typeAssert (.iface 90 x) 62 87 true) w = .ok (.tuple #[.agg #[.string ⟨#[]⟩, .string ⟨#[]⟩], .bool false]) w := by kernel_rfl
theorem ta_89_89 (w : World) (x : Value) : Sem.run Tryz.prog (Instr.typeAssert (.iface 90 x) 62 90 true) w = .ok (.tuple #[x, .bool true]) w := by kernel_rfl
set_option maxHeartbeats 2000000 in
set_option maxRecDepth 100000 in
theorem do_drop {w : World} {B D M n T o m : Nat} {cs : Array Value} {fs : Fm} {V : Nm → Value} {f : Nm} (h : Fls w B M n fs V) (hB : Blk w D T cs) (h0 : cs[o]? = some (.map (some M))) (h1 : cs[o + 1]? = some (.int .i64 (sz fs))) (hF : ¬ Foot M V D)
    (hG : Good fs m) (hm : m ≤ 100000) (_hn : n < 1000000) (hf : f.size ≤ 64) :
    Calls Tryz.prog 20 #[.pointer (some ⟨D, o, none⟩), (Chg.drop f).val] w (Done w B D M (n + 1) T o cs V ((Chg.drop f).doF fs)) := by
  have hsz := hG.sz_le
  have hgl := hG.gl_le f
  have hgs := gl_le_sz hG.uniq f
  have e1 : (sz fs : Int) - (gl fs f).length = (sz (del fs f) : Int) := by have := sz_del hG.uniq f; omega
  have E1 := Lib.hid e1
  have hb1 := (Below.refl w.heap.size w).alloc (Nat.le_refl _) (Obj.cells #[.string f] 90)
  have CALL := Lib.hid (drop_any (h.below hb1) (hB.below hb1 hB.lt) h0 h1 hF (s := f) (by omega) (by omega) (by omega) hgl (by omega))
  have FIN : Hid (∀ w2 e, Setd (w.alloc (Obj.cells #[.string f] 90)) B D M n T o cs (del fs f) (upd V f nilS) ((sz fs : Int) - (gl fs f).length) e w2 → Done w B D M (n + 1) T o cs V (del fs f) e w2) := Lib.hid (fun w2 e hs => by
    obtain ⟨he, a1, a2, a3⟩ := hs
    rw [E1.out] at a2
    refine ⟨he, _, a1.mono (Nat.le_succ _), a2, (Fr.of_below hb1 (fun _ => False)).trans a3 (fun _ _ h => h.elim) (fun q _ hq => ?_), fun q hq => ?_⟩
    · rcases hq with rfl | rfl
      · exact .inl rfl
      · exact .inr (.inl rfl)
    · rcases foot_upd hq with h | h
      · exact .inl h
      · simp [nilS, Value.ownBlock] at h)
  clear h hB h0 h1 hF hG hsz hgl hgs e1 hb1
  have t1 := ta_89_60 w (.agg #[.string f])
  have t2 := ta_89_84 w (.agg #[.string f])
  have t3 := ta_89_86 w (.agg #[.string f])
  have t4 := ta_89_89 w (.agg #[.string f])
  unfold Chg.val Chg.doF
  go_enter Tryz.func20, Tryz.ntmps20
  go_wp2_with fail
  refine CALL.out.mono ?_
  rintro e w2 hs
  have F := Lib.hid (FIN.out _ _ hs)
  obtain ⟨rfl, _⟩ := hs
  clear FIN CALL
  go_wp2_with fail
  go_end0
  exact F.out
theorem own_take {w : World} {B m cv : Nat} {a : Option Addr} {l : List UInt8} (h : w.ownsRow B 5 1 (.slice a m cv) m (bcells l)) {n : Nat} (hn : n ≤ m) : w.ownsRow B 5 1 (.slice a n cv) n (bcells (l.take n)) ∧ (a = none → n = 0 ∧ cv = 0) ∧ n ≤ cv := by
  rcases h.2 with ⟨e, e0⟩ | ⟨g, cap, cur, e, hB, hh, h1, h2, h3, h4⟩
  · cases e
    have e1 : n = 0 := by omega
    subst e1
    exact ⟨by simpa [bcells] using World.ownsRow_nil w B 5 1, (fun _ => ⟨rfl, rfl⟩), Nat.le_refl _⟩
  · cases e
    have hl : l.length = m := by have := h.1; rw [bcells_len] at this; omega
    refine ⟨⟨by rw [bcells_len, List.length_take]; omega, .inr ⟨g, cv, cur, rfl, hB, hh, by omega, h2, h3, ?_⟩⟩, (fun e => by cases e), by omega⟩
    have : cur.toList.take (n * 1) = (cur.toList.take (m * 1)).take n := by rw [List.take_take]; congr 1; omega
    rw [this, h4]
    unfold bcells
    rw [List.map_take]
theorem own_below {w w' : World} {B : Nat} {v : Value} {n : Nat} {xs : List Value} (h : w.ownsRow B 5 1 v n xs) (hb : Below w.heap.size w w') : w'.ownsRow B 5 1 v n xs :=
  World.ownsRow.kept h (row := none) ⟨hb.os, hb.tape, hb.output, hb.size, fun q hq _ => hb.block q hq⟩ (by cases v.ownBlock <;> simp)
theorem setd_cells {w w2 : World} {B D M n T o Y : Nat} {cs ys : Array Value} {fs : Fm} {V : Nm → Value} {u : Int} {e : Ending} {t : TypeId} (h : Setd w B D M n T o cs fs V u e w2) (hY : Blk w Y t ys) (h1 : Y ≠ D) (h2 : Y ≠ M) (h0 : cs[o]? = some (.map (some M))) : Blk w2 Y t ys ∧ w2.cell? ⟨D, o, none⟩ = some (.map (some M)) := by
  obtain ⟨_, _, hB, hF⟩ := h
  refine ⟨hY.fr hF (by rintro (e | e); exact h1 e; exact h2 e), ?_⟩
  rw [hB.cell, Array.getElem?_setIfInBounds_ne (by omega)]
  exact h0
theorem ownBlock_len (a : Option Addr) (n m c : Nat) : (Value.slice a n c).ownBlock = (Value.slice a m c).ownBlock := by cases a <;> rfl
set_option maxHeartbeats 2000000 in
set_option maxRecDepth 100000 in
theorem do_trim {w : World} {B D M n T o m : Nat} {cs : Array Value} {fs : Fm} {V : Nm → Value} {f : Nm} {k : Nat} (h : Fls w B M n fs V) (hB : Blk w D T cs) (h0 : cs[o]? = some (.map (some M))) (h1 : cs[o + 1]? = some (.int .i64 (sz fs))) (hF : ¬ Foot M V D)
    (hG : Good fs m) (hm : m ≤ 100000) (hn : n < 1000000) (hf : f.size ≤ 64) (hk : k ≤ (gl fs f).length) :
    Calls Tryz.prog 20 #[.pointer (some ⟨D, o, none⟩), (Chg.trim f k).val] w (Done w B D M (n + 1) T o cs V ((Chg.trim f k).doF fs)) := by
  have hsz := hG.sz_le
  have hgl := hG.gl_le f
  have hgs := gl_le_sz hG.uniq f
  obtain ⟨av, cv, hV⟩ := own_form (h.own f)
  have hown := h.own f
  rw [hV] at hown
  obtain ⟨ho, hnil, hkc⟩ := own_take hown hk
  have hlt : ((gl fs f).take k).length = k := by rw [List.length_take]; omega
  have e1 : (sz fs : Int) + ((((gl fs f).take k).length : Int) - (gl fs f).length) = (sz (YthnnenhpcceckaaGreat.put fs f ((gl fs f).take k)) : Int) := by have := sz_put hG.uniq f ((gl fs f).take k); omega
  have E1 := Lib.hid e1
  have b1 := (Below.refl w.heap.size w).alloc (Nat.le_refl _) (Obj.cells #[.string f, .int .i64 k] 85)
  obtain ⟨w1, hw1, hb1, Y1⟩ : ∃ w1, w1 = w.alloc (Obj.cells #[.string f, .int .i64 k] 85) ∧ Below w.heap.size w w1 ∧ Blk w1 w.heap.size 85 #[.string f, .int .i64 k] := ⟨_, rfl, b1, Blk.new _ _ _⟩
  have hbd : Below w.heap.size w w1.drew := hb1.trans ((Below.refl w1.heap.size w1).drew.mono hb1.size)
  have hfl := h.below hbd
  have LD : (Instr.lookup 48 (.map (some M)) (.string f) false).run Tryz.prog w1.drew = .ok (.slice av (gl fs f).length cv) w1.drew := by rw [hfl.look (by unfold maxLen; omega), hV]
  have hob : (Value.slice av ((gl fs f).take k).length cv).ownBlock = (V f).ownBlock := by rw [hV]; exact ownBlock_len _ _ _ _
  have ho' : w1.drew.ownsRow B 5 1 (.slice av ((gl fs f).take k).length cv) ((gl fs f).take k).length (bcells ((gl fs f).take k)) := by
    rw [hlt]
    exact own_below ho hbd
  have CALL := set_any hfl (hB.below hbd hB.lt) h0 h1 hF (s := f) (by omega) hn (by omega) (by omega) (by rw [hlt]; omega) hgl (by omega) ho' (fun t ht => by rw [hob]; exact h.apart f t ht.symm) (by rw [hob]; exact h.off.2 f) (by rw [hob]; exact fun e => hF (.inr ⟨f, e⟩))
  rw [E1.out] at CALL
  have FIN : Hid (∀ w2 e, Setd w1.drew B D M (n + 1) T o cs (YthnnenhpcceckaaGreat.put fs f ((gl fs f).take k)) (upd V f (.slice av ((gl fs f).take k).length cv)) (sz (YthnnenhpcceckaaGreat.put fs f ((gl fs f).take k))) e w2 → Done w B D M (n + 1) T o cs V (YthnnenhpcceckaaGreat.put fs f ((gl fs f).take k)) e w2) := Lib.hid (fun w2 e hs => by
    obtain ⟨he, a1, a2, a3⟩ := hs
    refine ⟨he, _, a1, a2, (Fr.of_below hbd (fun _ => False)).trans a3 (fun _ _ h => h.elim) (fun q _ hq => ?_), fun q hq => ?_⟩
    · rcases hq with rfl | rfl
      · exact .inl rfl
      · exact .inr (.inl rfl)
    · rcases foot_upd hq with h | h
      · exact .inl h
      · rw [hob] at h; exact .inl (.inr ⟨f, h⟩))
  have c0 : w1.cell? ⟨D, o, none⟩ = some (.map (some M)) := by rw [(hB.below hb1 hB.lt).cell]; exact h0
  have y0 : w1.cell? ⟨w.heap.size, 0, none⟩ = some (.string f) := by rw [Y1.cell]; rfl
  have y1 : w1.cell? ⟨w.heap.size, 1, none⟩ = some (.int .i64 k) := by rw [Y1.cell]; rfl
  rw [hlt] at CALL FIN
  have hYD : w.heap.size ≠ D := fun e => by have := hB.lt; omega
  have hYM : w.heap.size ≠ M := fun e => by have := (h.lt (.inl rfl)).2; omega
  have CEL : Hid (∀ w2 e, Setd w1.drew B D M (n + 1) T o cs (YthnnenhpcceckaaGreat.put fs f ((gl fs f).take k)) (upd V f (.slice av k cv)) (sz (YthnnenhpcceckaaGreat.put fs f ((gl fs f).take k))) e w2 → w2.cell? ⟨w.heap.size, 0, none⟩ = some (.string f) ∧ w2.cell? ⟨w.heap.size, 1, none⟩ = some (.int .i64 k) ∧ w2.cell? ⟨D, o, none⟩ = some (.map (some M))) := Lib.hid (fun w2 e hs => by
    obtain ⟨a1, a2⟩ := setd_cells hs (Y1 : Blk w1.drew _ _ _) hYD hYM h0
    exact ⟨by rw [a1.cell]; rfl, by rw [a1.cell]; rfl, a2⟩)
  have CALLh := Lib.hid CALL
  have W1 := Lib.hid hw1
  have t1 := ta_84_60 w (.agg #[.string f, .int .i64 k])
  have t2 := ta_84_84 w (.agg #[.string f, .int .i64 k])
  clear h hB h0 h1 hF hG hsz hgs e1 hb1 Y1 hbd hfl hob ho' CALL hw1 hown ho hV b1 hYD hYM
  unfold Chg.val Chg.doF
  simp only
  generalize YthnnenhpcceckaaGreat.put fs f ((gl fs f).take k) = fs' at *
  generalize (gl fs f).length = g at *
  go_enter Tryz.func20, Tryz.ntmps20
  go_wp2_with fail
  rw [← W1.out]
  clear W1 t1 t2
  go_region_held3 (fun w' => w'.cell? ⟨w.heap.size, 0, none⟩ = some (.string f) ∧ w'.cell? ⟨w.heap.size, 1, none⟩ = some (.int .i64 k) ∧ w'.cell? ⟨D, o, none⟩ = some (.map (some M)))
    (first | assumption | exact ⟨‹_›, ‹_›, ‹_›⟩)
    (first | (go_at_call 35; refine CALLh.out.mono ?_; rintro e w2 hs; have F := Lib.hid (FIN.out _ _ hs); obtain ⟨d0, d1, d2⟩ := CEL.out _ _ hs; obtain ⟨rfl, _⟩ := hs))
  clear FIN CEL CALLh c0 y0 y1 d0 d1 d2
  go_wp2_with fail
  go_end0
  exact F.out
end Go.Proofs.YthnnenhpcceckaaGreat
/-
  A CHANGE IS DONE: a file has another name.
-/
namespace Go.Proofs.YthnnenhpcceckaaGreat
open Go.RowKit
set_option maxHeartbeats 2000000 in
set_option maxRecDepth 100000 in
theorem do_move {w : World} {B D M n T o m : Nat} {cs : Array Value} {fs : Fm} {V : Nm → Value} {f t : Nm} (h : Fls w B M n fs V) (hB : Blk w D T cs) (h0 : cs[o]? = some (.map (some M))) (h1 : cs[o + 1]? = some (.int .i64 (sz fs))) (hF : ¬ Foot M V D)
    (hG : Good fs m) (hm : m ≤ 100000) (hn : n < 1000000) (hf : f.size ≤ 64) (ht : t.size ≤ 64) :
    Calls Tryz.prog 20 #[.pointer (some ⟨D, o, none⟩), (Chg.move f t).val] w (Done w B D M (n + 1) T o cs V ((Chg.move f t).doF fs)) := by
  have hsz := hG.sz_le
  have hgl := hG.gl_le f
  have hgs := gl_le_sz hG.uniq f
  have hG2 := hG.del f
  have hgl2 := hG2.gl_le t
  have hgs2 := gl_le_sz hG2.uniq t
  have hsz2 := hG2.sz_le
  have ho1 : o + 1 < cs.size := (Array.getElem?_eq_some_iff.1 h1).1
  obtain ⟨av, cv, hV⟩ := own_form (h.own f)
  have e1 : (sz fs : Int) - (gl fs f).length = (sz (del fs f) : Int) := by have := sz_del hG.uniq f; omega
  have e2 : (sz (del fs f) : Int) + (((gl fs f).length : Int) - (gl (del fs f) t).length) = (sz (YthnnenhpcceckaaGreat.put (del fs f) t (gl fs f)) : Int) := by have := sz_put hG2.uniq t (gl fs f); omega
  obtain ⟨w1, hw1, hb1, Y1⟩ : ∃ w1, w1 = w.alloc (Obj.cells #[.string f, .string t] 87) ∧ Below w.heap.size w w1 ∧ Blk w1 w.heap.size 87 #[.string f, .string t] := ⟨_, rfl, (Below.refl w.heap.size w).alloc (Nat.le_refl _) _, Blk.new _ _ _⟩
  have hbn : ∀ q, Below w.heap.size w (w1.drewN q) := fun q => below_drewN hb1 q
  have LD : ∀ q, (Instr.lookup 48 (.map (some M)) (.string f) false).run Tryz.prog (w1.drewN q) = .ok (.slice av (gl fs f).length cv) (w1.drewN q) := fun q => by rw [(h.below (hbn q)).look (by unfold maxLen; omega), hV]
  have hYD : w.heap.size ≠ D := fun e => by have := hB.lt; omega
  have hYM : w.heap.size ≠ M := fun e => by have := (h.lt (.inl rfl)).2; omega
  have hfD : (V f).ownBlock ≠ some D := fun e => hF (.inr ⟨f, e⟩)
  have C1 : Hid (∀ q, Calls Tryz.prog 36 #[.pointer (some ⟨D, o, none⟩), .string f] (w1.drewN q) (Setd (w1.drewN q) B D M n T o cs (del fs f) (upd V f nilS) (sz (del fs f)))) := Lib.hid (fun q => by
    have := drop_any (h.below (hbn q)) (hB.below (hbn q) hB.lt) h0 h1 hF (s := f) (by omega) (by omega) (by omega) hgl (by omega)
    rw [e1] at this
    exact this)
  have C2 : Hid (∀ q w2 e, Setd (w1.drewN q) B D M n T o cs (del fs f) (upd V f nilS) (sz (del fs f)) e w2 →
      w2.cell? ⟨w.heap.size, 1, none⟩ = some (.string t) ∧ Calls Tryz.prog 35 #[.pointer (some ⟨D, o, none⟩), .string t, .slice av (gl fs f).length cv] w2 (Done w B D M (n + 1) T o cs V (YthnnenhpcceckaaGreat.put (del fs f) t (gl fs f)))) := Lib.hid (fun q w2 e hs => by
    obtain ⟨a1, a2⟩ := setd_cells hs (Y1 : Blk (w1.drewN q) _ _ _) hYD hYM h0
    obtain ⟨_, k1, k2, k3⟩ := hs
    refine ⟨by rw [a1.cell]; rfl, ?_⟩
    have hF2 : ¬ Foot M (upd V f nilS) D := fun hq => by
      rcases foot_upd hq with h | h
      · exact hF h
      · simp [nilS, Value.ownBlock] at h
    have hob : (Value.slice av (gl fs f).length cv).ownBlock = (V f).ownBlock := by rw [hV]
    have ho2 : w2.ownsRow B 5 1 (.slice av (gl fs f).length cv) (gl fs f).length (bcells (gl fs f)) := by
      have hh := (h.below (hbn q)).own f
      rw [hV] at hh
      refine ⟨hh.1, ?_⟩
      rcases hh.2 with hn | ⟨g, cap, cur, e, hBg, hg, rest⟩
      · exact .inl hn
      · refine .inr ⟨g, cap, cur, e, hBg, ?_, rest⟩
        rw [k3.block g (Array.getElem?_eq_some_iff.1 hg).1 (by
          rintro (rfl | rfl)
          · exact hfD (by rw [hV, e]; rfl)
          · exact h.off.2 f (by rw [hV, e]; rfl))]
        exact hg
    have C := set_any (o := o) (u := (sz (del fs f) : Int)) (cs := cs.setIfInBounds (o + 1) (.int .i64 (sz (del fs f)))) k1 k2 (by rw [Array.getElem?_setIfInBounds_ne (by omega)]; exact h0) (by rw [Array.getElem?_setIfInBounds_self_of_lt ho1]) hF2 (s := t) (by omega) hn (by omega) (by omega) hgl hgl2 (by omega) ho2
      (fun t' ht' => by
        rw [hob]
        by_cases e : t' = f
        · subst e
          rw [upd_same]
          cases (V t').ownBlock with
          | none => exact .inl rfl
          | some x => exact .inr (by simp [nilS, Value.ownBlock])
        · rw [upd_other V nilS e]
          exact h.apart f t' (fun e' => e e'.symm)) (by rw [hob]; exact h.off.2 f) (by rw [hob]; exact hfD)
    rw [e2] at C
    refine C.mono fun e' w3 hs3 => ?_
    obtain ⟨he, j1, j2, j3⟩ := hs3
    refine ⟨he, _, j1, by rw [Array.setIfInBounds_setIfInBounds] at j2; exact j2, ((Fr.of_below (hbn q) (fun _ => False)).trans k3 (fun _ _ h => h.elim) (fun _ _ h => h)).trans j3 (fun q' _ hq => ?_) (fun q' _ hq => ?_), fun q' hq => ?_⟩
    · rcases hq with rfl | rfl
      · exact .inl rfl
      · exact .inr (.inl rfl)
    · rcases hq with rfl | rfl
      · exact .inl rfl
      · exact .inr (.inl rfl)
    · rcases foot_upd hq with h | h
      · rcases foot_upd h with h | h
        · exact .inl h
        · simp [nilS, Value.ownBlock] at h
      · rw [hob] at h; exact .inl (.inr ⟨f, h⟩))
  have c0 : w1.cell? ⟨D, o, none⟩ = some (.map (some M)) := by rw [(hB.below hb1 hB.lt).cell]; exact h0
  have y0 : w1.cell? ⟨w.heap.size, 0, none⟩ = some (.string f) := by rw [Y1.cell]; rfl
  have W1 := Lib.hid hw1
  have t1 := ta_86_60 w (.agg #[.string f, .string t])
  have t2 := ta_86_84 w (.agg #[.string f, .string t])
  have t3 := ta_86_86 w (.agg #[.string f, .string t])
  clear h hB h0 h1 hF hG hsz hgs e1 hb1 Y1 hbn hV hw1 hYD hYM hfD hG2 hgl2 hgs2 hsz2 e2 ho1
  unfold Chg.val Chg.doF
  simp only
  generalize YthnnenhpcceckaaGreat.put (del fs f) t (gl fs f) = fs' at *
  generalize (gl fs f).length = g at *
  go_enter Tryz.func20, Tryz.ntmps20
  go_wp2_with fail
  rw [← W1.out]
  clear W1 t1 t2 t3
  go_quiet (fail)
  clear LD c0
  go_wp2_with fail
  refine (C1.out nq).mono ?_
  rintro e w2 hs
  obtain ⟨y1, C3⟩ := C2.out nq _ _ hs
  have C3 := Lib.hid C3
  obtain ⟨rfl, _⟩ := hs
  clear C1 C2 y0
  go_wp2_with fail
  refine C3.out.mono ?_
  rintro e w3 hd
  have F := Lib.hid hd
  obtain ⟨rfl, _⟩ := hd
  clear C3 y1
  go_wp2_with fail
  go_end0
  exact F.out
end Go.Proofs.YthnnenhpcceckaaGreat
/-
  FILES OF WHICH ONE IS BEING WRITTEN.
-/
namespace Go.Proofs.YthnnenhpcceckaaGreat
open Go.RowKit
/-- as Fls, but of the bytes of the file x nothing is said -/
structure Flx (w : World) (B M n : Nat) (fs : Fm) (V : Nm → Value) (x : Nm) : Prop where
  map : ∃ D, w.ownsMap Tryz.prog 9 Rv M n D ∧ (∀ s, Maps.has D (key s) = (get fs s).isSome) ∧ ∀ s, D.atKey (key s) (.held nilS) = .held (V s)
  own : ∀ s, s ≠ x → w.ownsRow B 5 1 (V s) (gl fs s).length (bcells (gl fs s))
  apart : ∀ s t, s ≠ t → (V s).ownBlock = none ∨ (V s).ownBlock ≠ (V t).ownBlock
  off : B ≤ M ∧ ∀ s, (V s).ownBlock ≠ some M
  form : ∃ a c, V x = .slice a (gl fs x).length c
theorem Fls.flx {w w' : World} {B M n : Nat} {fs : Fm} {V : Nm → Value} (h : Fls w B M n fs V) (x : Nm) {P : Nat → Prop} (hf : Fr w w' P) (hP : ∀ q, P q → some q = (V x).ownBlock) : Flx w' B M n fs V x := by
  obtain ⟨⟨D, hD, h1, h2⟩, h3, h4, h5⟩ := h
  refine ⟨⟨D, ?_, h1, h2⟩, fun s hs => ?_, h4, h5, own_form (h3 x)⟩
  · have hl := hD.lt
    obtain ⟨es, clock, hh, rest⟩ := hD
    exact ⟨es, clock, (hf.block M hl (fun hp => h5.2 x (hP M hp).symm)).trans hh, rest⟩
  · have hr := h3 s
    refine ⟨hr.1, ?_⟩
    rcases hr.2 with hn | ⟨g, cap, cur, e, hB, hh, rest⟩
    · exact .inl hn
    · refine .inr ⟨g, cap, cur, e, hB, ?_, rest⟩
      rw [hf.block g (Array.getElem?_eq_some_iff.1 hh).1 (fun hp => by
        have e1 : (V s).ownBlock = some g := by rw [e]; rfl
        rcases h4 s x hs with h | h
        · rw [h] at e1; cases e1
        · exact h (e1.trans (hP g hp)))]
      exact hh
theorem Flx.fr {w w' : World} {B M n : Nat} {fs : Fm} {V : Nm → Value} {x : Nm} {P : Nat → Prop} (h : Flx w B M n fs V x) (hf : Fr w w' P) (hP : ∀ q, Foot M V q → ¬ P q) : Flx w' B M n fs V x := by
  obtain ⟨⟨D, hD, h1, h2⟩, h3, h4, h5, h6⟩ := h
  refine ⟨⟨D, ?_, h1, h2⟩, fun s hs => ?_, h4, h5, h6⟩
  · have hl := hD.lt
    obtain ⟨es, clock, hh, rest⟩ := hD
    exact ⟨es, clock, (hf.block M hl (hP M (.inl rfl))).trans hh, rest⟩
  · have hr := h3 s hs
    refine ⟨hr.1, ?_⟩
    rcases hr.2 with hn | ⟨g, cap, cur, e, hB, hh, rest⟩
    · exact .inl hn
    · refine .inr ⟨g, cap, cur, e, hB, ?_, rest⟩
      rw [hf.block g (Array.getElem?_eq_some_iff.1 hh).1 (hP g (.inr ⟨s, by rw [e]; rfl⟩))]
      exact hh
theorem Flx.below {w w' : World} {B M n : Nat} {fs : Fm} {V : Nm → Value} {x : Nm} (h : Flx w B M n fs V x) (hb : Below w.heap.size w w') : Flx w' B M n fs V x := h.fr (Fr.of_below hb (fun _ => False)) (fun _ _ h => h)
theorem Flx.look {w : World} {B M n : Nat} {fs : Fm} {V : Nm → Value} {x : Nm} (h : Flx w B M n fs V x) {s : Nm} (hs : s.size ≤ maxLen) : (Instr.lookup 48 (.map (some M)) (.string s) false).run Tryz.prog w = .ok (V s) w := by
  obtain ⟨⟨D, hD, _, h2⟩, _⟩ := h
  obtain ⟨v, ps, hrun, hv⟩ := hD.lookup law9 Tryz.underlying48 (zero55 w) (zd := .held nilS) (zp := []) rfl (keyOf_key hs)
  rw [h2] at hv
  unfold Rv at hv
  simp only [Option.some.injEq, Prod.mk.injEq, DataW.held.injEq] at hv
  rw [hrun, hv.1]
/-- 'm[s] = v' -/
theorem Flx.store {w : World} {B M n : Nat} {fs : Fm} {V : Nm → Value} {s : Nm} (h : Flx w B M n fs V s) (hs : s.size ≤ maxLen) (hn : n < maxLen) {v : Value} {l : List UInt8} (ho : w.ownsRow B 5 1 v l.length (bcells l))
    (hv : ∀ t, t ≠ s → v.ownBlock = none ∨ v.ownBlock ≠ (V t).ownBlock) (hM : v.ownBlock ≠ some M) :
    ∃ w', (Instr.mapUpdate 48 (.map (some M)) (.string s) v).run Tryz.prog w = .ok () w' ∧ Fls w' B M (n + 1) (put fs s l) (upd V s v) ∧ w.grownBy w' (some M) ∧ w'.heap.size = w.heap.size := by
  obtain ⟨⟨D, hD, h1, h2⟩, h3, h4, h5, _⟩ := h
  obtain ⟨w', hrun, hD', ht⟩ := hD.store law9 Tryz.underlying48 hn (keyOf_key hs) (d := .held v) (ps := []) rfl
  obtain ⟨es, clock, es', clock', hb, hw'⟩ := ht
  have hg : w.grownBy w' (some M) := by
    rw [hw']
    exact ⟨rfl, rfl, rfl, by simp [ChangeMaps.setBlock], fun i _ hi => ChangeMaps.heap_setBlock_other hb _ (fun e => hi (by rw [e]))⟩
  have hz : w'.heap.size = w.heap.size := by rw [hw']; simp [ChangeMaps.setBlock]
  have hm : Maps.IsMap D := by
    obtain ⟨es, _, _, _, _, rfl⟩ := hD
    exact ⟨_, rfl⟩
  refine ⟨w', hrun, ⟨⟨_, hD', fun t => ?_, fun t => ?_⟩, fun t => ?_, fun t u htu => ?_, h5.1, fun t => ?_⟩, hg, hz⟩
  · by_cases e : t = s
    · subst e
      rw [Maps.has_put_same hm (isKey t), get_put_same]; rfl
    · rw [Maps.has_put_other (key_ne e), get_put_other l e, h1]
  · by_cases e : t = s
    · subst e
      rw [Maps.atKey_put_same hm (isKey t), upd_same]
    · rw [Maps.atKey_put_other (key_ne e), upd_other V v e, h2]
  · by_cases e : t = s
    · subst e
      rw [upd_same, gl_put_same]
      exact World.ownsRow.kept ho hg (.inr hM)
    · rw [upd_other V v e, gl_put_other l e]
      exact World.ownsRow.kept (h3 t e) hg (.inr (h5.2 t))
  · by_cases e : t = s
    · subst e
      rw [upd_same, upd_other V v htu.symm]
      exact hv u htu.symm
    · by_cases e2 : u = s
      · subst e2
        rw [upd_same, upd_other V v e]
        rcases hv t e with h | h
        · rw [h]
          rcases hq : (V t).ownBlock with _ | q
          · exact .inl rfl
          · exact .inr (by simp)
        · exact .inr (fun h' => h h'.symm)
      · rw [upd_other V v e, upd_other V v e2]
        exact h4 t u htu
  · by_cases e : t = s
    · subst e; rw [upd_same]; exact hM
    · rw [upd_other V v e]; exact h5.2 t
set_option maxHeartbeats 2000000 in
set_option maxRecDepth 100000 in
theorem setx_any {w : World} {B D M n T o : Nat} {cs : Array Value} {fs : Fm} {V : Nm → Value} {s : Nm} {a : Option Addr} {l : List UInt8} {c : Nat} {u : Int} (h : Flx w B M n fs V s) (hB : Blk w D T cs) (h0 : cs[o]? = some (.map (some M))) (h1 : cs[o + 1]? = some (.int .i64 u)) (hF : ¬ Foot M V D)
    (hs : s.size ≤ 9223372036854775807) (hn : n < 1000000) (hu0 : 0 ≤ u) (hu1 : u ≤ 4611686018427387904) (hl : l.length ≤ 4194304) (hg : (gl fs s).length ≤ 4194304) (hgu : ((gl fs s).length : Int) ≤ u) (ho : w.ownsRow B 5 1 (.slice a l.length c) l.length (bcells l))
    (hv : ∀ t, t ≠ s → (Value.slice a l.length c).ownBlock = none ∨ (Value.slice a l.length c).ownBlock ≠ (V t).ownBlock) (hM : (Value.slice a l.length c).ownBlock ≠ some M) (hvD : (Value.slice a l.length c).ownBlock ≠ some D) :
    Calls Tryz.prog 35 #[.pointer (some ⟨D, o, none⟩), .string s, .slice a l.length c] w (Setd w B D M (n + 1) T o cs (put fs s l) (upd V s (.slice a l.length c)) (u + (l.length - (gl fs s).length))) := by
  have hs' : s.size ≤ maxLen := by unfold maxLen; omega
  have hDM : D ≠ M := fun e => hF (.inl e)
  have c0 : w.cell? ⟨D, o, none⟩ = some (.map (some M)) := by rw [hB.cell]; exact h0
  have c1 : w.cell? ⟨D, o + 1, none⟩ = some (.int .i64 u) := by rw [hB.cell]; exact h1
  have f1 := hB.free (o + 1)
  obtain ⟨av, cv, hV⟩ := h.form
  have LK : (Instr.lookup 48 (.map (some M)) (.string s) false).run Tryz.prog w = .ok (.slice av (gl fs s).length cv) w := by rw [h.look hs', hV]
  have LD : (Instr.lookup 48 (.map (some M)) (.string s) false).run Tryz.prog w.drew = .ok (.slice av (gl fs s).length cv) w.drew := by
    have h2 : Flx w.drew B M n fs V s := h.below (below_drewN (Below.refl _ _) 1)
    rw [h2.look hs', hV]
  obtain ⟨w2, hw2, h2, B2, F2, o2⟩ : ∃ w2, w2 = (w.setCell ⟨D, o + 1, none⟩ (.int .i64 (u + ((l.length : Int) - (gl fs s).length)))).drew ∧ Flx w2 B M n fs V s ∧ Blk w2 D T (cs.setIfInBounds (o + 1) (.int .i64 (u + ((l.length : Int) - (gl fs s).length)))) ∧ Fr w w2 (fun q => q = D) ∧ w2.ownsRow B 5 1 (.slice a l.length c) l.length (bcells l) := by
    have F := (fr_set w D (o + 1) (.int .i64 (u + ((l.length : Int) - (gl fs s).length)))).trans (fr_drew _ (fun _ => False)) (fun _ _ h => h) (fun _ _ h => h.elim)
    refine ⟨_, rfl, h.fr F (fun q hq e => hF (e ▸ hq)), hB.set _ _, F, ?_⟩
    exact World.ownsRow.kept ho ⟨F.os, F.tape, F.output, F.size, fun q hq hne => F.block q hq (fun e => hne (by rw [e]))⟩ (.inr hvD)
  obtain ⟨w3, hrun, h3, g3, z3⟩ := h2.store hs' (by unfold maxLen; omega) o2 hv hM
  have B3 : Blk w3 D T (cs.setIfInBounds (o + 1) (.int .i64 (u + ((l.length : Int) - (gl fs s).length)))) := B2.fr (Fr.of_grown g3) (by simpa using hDM)
  have c3 : w2.cell? ⟨D, o, none⟩ = some (.map (some M)) := by rw [B2.cell]; rw [Array.getElem?_setIfInBounds_ne (by omega)]; exact h0
  have FIN := Lib.hid (show Setd w B D M (n + 1) T o cs (put fs s l) (upd V s (.slice a l.length c)) (u + (l.length - (gl fs s).length)) (.returned (.tuple #[])) w3 from
    ⟨rfl, h3, B3, F2.trans (Fr.of_grown g3) (fun q _ e => .inl e) (fun q _ e => .inr (by simpa using e))⟩)
  have W2 := Lib.hid hw2
  have hg2 : ((gl fs s).length : Int) ≤ 4194304 := by omega
  have hl2 : (l.length : Int) ≤ 4194304 := by omega
  clear h2 B2 F2 o2 h3 g3 z3 B3 hV ho hv hM hvD h hB h0 h1 hw2
  generalize (gl fs s).length = g at *
  generalize l.length = m at *
  go_enter Tryz.func35, Tryz.ntmps35
  go_wp2_with fail
  go_region
  rw [← W2.out]
  clear LK LD c0 c1 f1
  go_wp2_with fail
  go_end0
  exact FIN.out
end Go.Proofs.YthnnenhpcceckaaGreat
/-
  A CHANGE IS DONE: bytes are laid at a place.
-/
namespace Go.Proofs.YthnnenhpcceckaaGreat
open Go.RowKit
theorem extract_all (s : ByteArray) : s.extract 0 s.size = s := by
  have h : bl (s.extract 0 s.size) = bl s := by
    unfold bl
    rw [Lib.extract_data, List.drop_zero, List.take_of_length_le]
    rw [← Lib.size_eq]
    exact Nat.le_refl _
  unfold bl at h
  have := Array.toList_inj.1 h
  cases hs : s.extract 0 s.size; cases s; simp_all
theorem splice_end (l b : List UInt8) : splice l l.length b = l ++ b := by
  unfold splice
  rw [List.take_length, List.drop_eq_nil_of_le (Nat.le_add_right _ _), List.append_nil]
theorem bl_extract (s : ByteArray) (k : Nat) : bl (s.extract k s.size) = (bl s).drop k := by
  unfold bl
  rw [Lib.extract_data, List.take_of_length_le]
  rw [List.length_drop, ← Lib.size_eq]
  exact Nat.le_refl _
/-- an append of which the run is known, at a step of a region -/
theorem step_append_run {P : Program} {ops : Array Oper} {o : Oper} {a : Act} {w : World} {K : Act → World → Prop} {Q : Exit → Act → World → Prop} {E : Prop} (hgd : o.guard = none) (sl x : Operand) (t u : TypeId)
    (hop : o.op = Op.call { callee := Callee.builtin Builtin.append, args := #[sl, x], argTypes := #[t, u] }) (v y : Value) (hs : a.eval sl = v) (hx : a.eval x = y) (v' : Value) (w' : World)
    (hr : (Builtin.append_ #[t, u] o.type #[v, y]).run P w = .ok v' w') (hK : K (a.put o.dst v') w') : if Region.wanted o (yielded ops a.tmps) = true then Oper.wp P o a w K Q else E := by
  have hw : Region.wanted o (yielded ops a.tmps) = true := by simp [Region.wanted, hgd]
  rw [if_pos hw]
  unfold Oper.wp execOp
  simp only [hop, resolve, invoke, builtin, Sem.run_bind, Sem.run_pure, Result.andThen_ok, List.map_toArray, List.map_cons, List.map_nil, hs, hx, hr]
  exact hK
/-- behind the copy: what is left goes behind, and the file is set -/
theorem put_tail {w w3 : World} {B D M n T o m k g0 : Nat} {cs : Array Value} {fs : Fm} {V : Nm → Value} {f : Nm} {at_ : Nat} {s : ByteArray} {av : Option Addr} {cv : Nat} {L : List UInt8} (h : Fls w B M n fs V) (hB : Blk w D T cs) (h0 : cs[o]? = some (.map (some M))) (h1 : cs[o + 1]? = some (.int .i64 (sz fs))) (hF : ¬ Foot M V D) (hBD : B ≤ w.heap.size)
    (hG : Good fs m) (hm : m ≤ 100000) (hn : n < 1000000) (hf : f.size ≤ 64) (ha : at_ ≤ (gl fs f).length) (hs : at_ + s.size ≤ 4194304) (hV : V f = .slice av g0 cv) (hg0 : (gl fs f).length = g0)
    (hk : k ≤ s.size) (hL : L ++ (bl s).drop k = splice (gl fs f) at_ (bl s)) (hLl : L.length = g0) (hown : w3.ownsRow B 5 1 (.slice av g0 cv) g0 (bcells L)) (hfr : Fr w w3 (fun q => q = w.heap.size ∨ some q = (V f).ownBlock)) (hY : Blk w3 w.heap.size 60 #[.string f, .int .i64 at_, .string s]) :
      ∃ a' c' w4, (Builtin.append_ #[55, 9] 55 #[.slice av g0 cv, .string (s.extract k s.size)]).run Tryz.prog w3 = .ok (.slice a' (splice (gl fs f) at_ (bl s)).length c') w4 ∧ Blk w4 w.heap.size 60 #[.string f, .int .i64 at_, .string s] ∧
        Calls Tryz.prog 35 #[.pointer (some ⟨D, o, none⟩), .string f, .slice a' (splice (gl fs f) at_ (bl s)).length c'] w4 (fun e w5 => Done w B D M (n + 1) T o cs V (YthnnenhpcceckaaGreat.put fs f (splice (gl fs f) at_ (bl s))) e w5 ∧ Blk w5 w.heap.size 60 #[.string f, .int .i64 at_, .string s]) := by
  have hgl := hG.gl_le f
  have hgs := gl_le_sz hG.uniq f
  have hsz := hG.sz_le
  have hsl := splice_len (b := bl s) ha
  rw [bl_len] at hsl
  have hx : (s.extract k s.size).size = s.size - k := by
    rw [← bl_len, bl_extract, List.length_drop, bl_len]
  have hlen : g0 + (s.extract k s.size).size = (splice (gl fs f) at_ (bl s)).length := by rw [← hL, List.length_append, hLl, List.length_drop, bl_len, hx]
  obtain ⟨v', w4, hr, ho, hg, hlie⟩ := append_own hown (s.extract k s.size) (by omega) (Nat.le_trans hBD hfr.size)
  rw [bl_extract, hL, hlen] at ho
  obtain ⟨a', c', rfl⟩ := own_form ho
  have hob : (Value.slice av g0 cv).ownBlock = (V f).ownBlock := by rw [hV]
  rw [hob] at hg hlie
  have hfr4 : Fr w w4 (fun q => some q = (V f).ownBlock) := hfr.trans (Fr.of_grown hg) (fun q hq h => by rcases h with rfl | h; exact absurd hq (Nat.lt_irrefl _); exact h) (fun _ _ h => h)
  have hsz3 := hfr.size
  have hsz4 := hg.size
  have hYf : (V f).ownBlock ≠ some w.heap.size := fun e => by have := (h.lt (.inr ⟨f, e⟩)).2; omega
  have hY4 : Blk w4 w.heap.size 60 #[.string f, .int .i64 at_, .string s] := hY.fr (Fr.of_grown hg) (fun e => hYf e.symm)
  have hDf : (V f).ownBlock ≠ some D := fun e => hF (.inr ⟨f, e⟩)
  have hDl := hB.lt
  have hMl := (h.lt (.inl rfl)).2
  have hYl := hY.lt
  have hB4 : Blk w4 D T cs := hB.fr hfr4 (fun e => hDf e.symm)
  refine ⟨a', c', w4, hr, hY4, ?_⟩
  have e1 : (sz fs : Int) + (((splice (gl fs f) at_ (bl s)).length : Int) - (gl fs f).length) = (sz (YthnnenhpcceckaaGreat.put fs f (splice (gl fs f) at_ (bl s))) : Int) := by have := sz_put hG.uniq f (splice (gl fs f) at_ (bl s)); omega
  have C := setx_any (o := o) (u := (sz fs : Int)) (h.flx f hfr4 (fun _ h => h)) hB4 h0 h1 hF (by omega) hn (by omega) (by omega) (by omega) hgl (by omega) ho
    (fun t ht => by
      rcases hlie with e | e | e
      · exact .inl e
      · rw [e]; exact h.apart f t ht.symm
      · right
        rw [e]
        intro e'
        have := (h.lt (.inr ⟨t, e'.symm⟩)).2
        omega)
    (by
      rcases hlie with e | e | e
      · rw [e]; simp
      · rw [e]; exact h.off.2 f
      · rw [e]; intro e'; simp at e'; omega)
    (by
      rcases hlie with e | e | e
      · rw [e]; simp
      · rw [e]; exact hDf
      · rw [e]; intro e'; simp at e'; omega)
  rw [e1] at C
  refine C.mono fun e w5 hs5 => ?_
  obtain ⟨he, j1, j2, j3⟩ := hs5
  refine ⟨⟨he, _, j1, j2, hfr4.trans j3 (fun q _ hq => .inr (.inr ⟨f, hq.symm⟩)) (fun q _ hq => ?_), fun q hq => ?_⟩, hY4.fr j3 (by rintro (e | e) <;> omega)⟩
  · rcases hq with rfl | rfl
    · exact .inl rfl
    · exact .inr (.inl rfl)
  · rcases foot_upd hq with hh | hh
    · exact .inl hh
    · rcases hlie with e | e | e
      · rw [e] at hh; cases hh
      · rw [e] at hh; exact .inl (.inr ⟨f, hh⟩)
      · rw [e] at hh; right; simp at hh; omega
set_option maxHeartbeats 40000000 in
set_option maxRecDepth 100000 in
theorem do_put {w : World} {B D M n T o m : Nat} {cs : Array Value} {fs : Fm} {V : Nm → Value} {f : Nm} {at_ : Nat} {s : ByteArray} (h : Fls w B M n fs V) (hB : Blk w D T cs) (h0 : cs[o]? = some (.map (some M))) (h1 : cs[o + 1]? = some (.int .i64 (sz fs))) (hF : ¬ Foot M V D) (hBD : B ≤ w.heap.size)
    (hG : Good fs m) (hm : m ≤ 100000) (hn : n < 1000000) (hf : f.size ≤ 64) (ha : at_ ≤ (gl fs f).length) (hs : at_ + s.size ≤ 4194304) :
    Calls Tryz.prog 20 #[.pointer (some ⟨D, o, none⟩), (Chg.put f at_ s).val] w (Done w B D M (n + 1) T o cs V ((Chg.put f at_ s).doF fs)) := by
  have hsz := hG.sz_le
  have hgl := hG.gl_le f
  have hgs := gl_le_sz hG.uniq f
  have ho1 : o + 1 < cs.size := (Array.getElem?_eq_some_iff.1 h1).1
  obtain ⟨av, cv, hV⟩ := own_form (h.own f)
  obtain ⟨w1, hw1, hb1, Y1⟩ : ∃ w1, w1 = w.alloc (Obj.cells #[.string f, .int .i64 at_, .string s] 60) ∧ Below w.heap.size w w1 ∧ Blk w1 w.heap.size 60 #[.string f, .int .i64 at_, .string s] := ⟨_, rfl, (Below.refl w.heap.size w).alloc (Nat.le_refl _) _, Blk.new _ _ _⟩
  have hbn : ∀ q, Below w.heap.size w (w1.drewN q) := fun q => below_drewN hb1 q
  have LD : ∀ q, (Instr.lookup 48 (.map (some M)) (.string f) false).run Tryz.prog (w1.drewN q) = .ok (.slice av (gl fs f).length cv) (w1.drewN q) := fun q => by rw [(h.below (hbn q)).look (by unfold maxLen; omega), hV]
  have hYD : w.heap.size ≠ D := fun e => by have := hB.lt; omega
  have hYM : w.heap.size ≠ M := fun e => by have := (h.lt (.inl rfl)).2; omega
  have hfD : (V f).ownBlock ≠ some D := fun e => hF (.inr ⟨f, e⟩)
  have hYf : (V f).ownBlock ≠ some w.heap.size := fun e => by have := (h.lt (.inr ⟨f, e⟩)).2; omega
  have c0 : w1.cell? ⟨D, o, none⟩ = some (.map (some M)) := by rw [(hB.below hb1 hB.lt).cell]; exact h0
  have y0 : w1.cell? ⟨w.heap.size, 0, none⟩ = some (.string f) := by rw [Y1.cell]; rfl
  have y1 : w1.cell? ⟨w.heap.size, 1, none⟩ = some (.int .i64 at_) := by rw [Y1.cell]; rfl
  have y2 : w1.cell? ⟨w.heap.size, 2, none⟩ = some (.string s) := by rw [Y1.cell]; rfl
  have W1 := Lib.hid hw1
  have t1 := ta_60_60 w (.agg #[.string f, .int .i64 at_, .string s])
  have HO := Lib.hid (fun q => (h.below (hbn q)).own f)
  rw [hV] at HO
  have hmc : (gl fs f).length ≤ cv ∧ cv ≤ 9223372036854775807 := by
    have := h.own f
    rw [hV] at this
    rcases this.2 with ⟨e, e0⟩ | ⟨g, cap, cur, e, _, _, h1, h2, _⟩
    · injection e with _ e3 e4; omega
    · injection e with _ e3 e4; unfold maxLen at h2; omega
  have Hh := Lib.hid h
  have HB := Lib.hid hB
  have H0 := Lib.hid h0
  have H1 := Lib.hid h1
  have HF := Lib.hid hF
  have HG := Lib.hid hG
  have HV := Lib.hid hV
  have HYb := Lib.hid Y1
  have HN := Lib.hid hbn
  have HD := Lib.hid (show (V f).ownBlock ≠ some D ∧ (V f).ownBlock ≠ some w.heap.size ∧ w.heap.size ≠ D ∧ w.heap.size ≠ M from ⟨hfD, hYf, hYD, hYM⟩)
  have hs2 : s.size ≤ 4194304 := by omega
  have HSZ := Lib.hid hsz
  have HGS := Lib.hid hgs
  clear h hB h0 h1 hF hG hV Y1 hbn hfD hYf hYD hYM hb1 hw1 hsz hgs
  unfold Chg.val Chg.doF
  simp only
  generalize hgm : (gl fs f).length = g0 at *
  have HGM := Lib.hid hgm
  clear hgm
  go_enter Tryz.func20, Tryz.ntmps20
  go_wp2_with fail
  rw [← W1.out]
  clear W1 t1
  go_quiet (fail)
  obtain ⟨w2, hw2, z0, z1, z2, Y2, B2, O2⟩ : ∃ w2, w2 = w1.drewN nq ∧ w2.cell? ⟨w.heap.size, 0, none⟩ = some (.string f) ∧ w2.cell? ⟨w.heap.size, 1, none⟩ = some (.int .i64 at_) ∧ w2.cell? ⟨w.heap.size, 2, none⟩ = some (.string s) ∧ Hid (Blk w2 w.heap.size 60 #[.string f, .int .i64 at_, .string s]) ∧ Hid (Below w.heap.size w w2) ∧ Hid (w2.ownsRow B 5 1 (.slice av g0 cv) g0 (bcells (gl fs f))) :=
    ⟨_, rfl, y0, y1, y2, HYb.out, HN.out nq, HO.out nq⟩
  rw [← hw2]
  have hav : av = none ∨ ∃ g, av = some ⟨g, 0, none⟩ := by
    rcases O2.out.2 with ⟨e, _⟩ | ⟨g, cap, cur, e, _⟩
    · injection e with e1 _ _; exact .inl e1
    · injection e with e1 _ _; exact .inr ⟨g, e1⟩
  clear LD c0 y0 y1 y2 HO HN hw2 HYb
  /- behind the copy: k bytes have gone over -/
  have TAIL : Hid (∀ (w3 : World) (k : Nat) (L : List UInt8), k ≤ s.size → L ++ (bl s).drop k = splice (gl fs f) at_ (bl s) → L.length = g0 → w3.ownsRow B 5 1 (.slice av g0 cv) g0 (bcells L) → Fr w w3 (fun q => q = w.heap.size ∨ some q = (V f).ownBlock) → Blk w3 w.heap.size 60 #[.string f, .int .i64 at_, .string s] →
      ∃ a' c' w4, (Builtin.append_ #[55, 9] 55 #[.slice av g0 cv, .string (s.extract k s.size)]).run Tryz.prog w3 = .ok (.slice a' (splice (gl fs f) at_ (bl s)).length c') w4 ∧ Blk w4 w.heap.size 60 #[.string f, .int .i64 at_, .string s] ∧
        Calls Tryz.prog 35 #[.pointer (some ⟨D, o, none⟩), .string f, .slice a' (splice (gl fs f) at_ (bl s)).length c'] w4 (fun e w5 => Done w B D M (n + 1) T o cs V (YthnnenhpcceckaaGreat.put fs f (splice (gl fs f) at_ (bl s))) e w5 ∧ Blk w5 w.heap.size 60 #[.string f, .int .i64 at_, .string s])) := Lib.hid (fun w3 k L a1 a2 a3 a4 a5 a6 => put_tail Hh.out HB.out H0.out H1.out HF.out hBD HG.out hm hn hf (by rw [HGM.out]; exact ha) hs HV.out HGM.out a1 a2 a3 a4 a5 a6)
  rcases hav with rfl | ⟨g, rfl⟩
  · have hz : g0 = 0 ∧ cv = 0 := by
      rcases O2.out.2 with ⟨e, e0⟩ | ⟨g, cap, cur, e, _⟩
      · injection e with _ e2 e3; exact ⟨e2, e3⟩
      · cases e
    have ha0 : at_ = 0 := by omega
    obtain ⟨rfl, rfl⟩ := hz
    subst ha0
    obtain ⟨w3, hw3⟩ : ∃ w3, w3 = w2.drew := ⟨_, rfl⟩
    have hcp := run_copy_zero (P := Tryz.prog) w2.drew 55 9 3 5 none 0 0 s Tryz.underlying55 (by rw [info5s]; rfl) (Nat.min_zero _)
    have hL : gl fs f ++ (bl s).drop 0 = splice (gl fs f) 0 (bl s) := by rw [List.eq_nil_of_length_eq_zero HGM.out]; simp [splice]
    have hYw : Blk w3.drew w.heap.size 60 #[.string f, .int .i64 (0 : Nat), .string s] := by rw [hw3]; exact Y2.out
    obtain ⟨a', c', w4, hap, hY4, hC⟩ := TAIL.out w3.drew 0 _ (Nat.zero_le _) hL HGM.out (by rw [hw3]; exact O2.out) (by rw [hw3]; exact Fr.of_below (B2.out.trans ((Below.refl w2.heap.size w2).drew.drew.mono B2.out.size)) _) hYw
    rw [extract_all] at hap
    have HAP := Lib.hid hap
    have HC := Lib.hid hC
    have HY3 := Lib.hid hYw
    have HY4 := Lib.hid hY4
    have W3 := Lib.hid hw3
    clear hap hC hYw hY4 hL hw3
    go_wp2_with fail
    go_region
    rw [← W3.out]
    clear hcp z0 z1 z2 W3
    have z0 : w3.cell? ⟨w.heap.size, 0, none⟩ = some (.string f) := by have := HY3.out.cell 0; exact this
    have z2 : w3.cell? ⟨w.heap.size, 2, none⟩ = some (.string s) := by have := HY3.out.cell 2; exact this
    have u0 : w4.cell? ⟨w.heap.size, 0, none⟩ = some (.string f) := by have := HY4.out.cell 0; exact this
    have u2 : w4.cell? ⟨w.heap.size, 2, none⟩ = some (.string s) := by have := HY4.out.cell 2; exact this
    go_wp2_with fail
    go_region_held3 (fun w' => w'.cell? ⟨w.heap.size, 0, none⟩ = some (.string f) ∧ w'.cell? ⟨w.heap.size, 2, none⟩ = some (.string s))
      (first | assumption | exact ⟨‹_›, ‹_›⟩)
      (first | (refine step_append_run (by rfl) _ _ _ _ (by rfl) _ _ (by rfl) (by rfl) _ _ HAP.out ?_) | (go_at_call 35; refine HC.out.mono ?_; rintro e w5 ⟨hd, hY5⟩; have F := Lib.hid hd; have x0 : w5.cell? ⟨w.heap.size, 0, none⟩ = some (.string f) := by { have := hY5.cell 0; exact this }; have x2 : w5.cell? ⟨w.heap.size, 2, none⟩ = some (.string s) := by { have := hY5.cell 2; exact this }; obtain ⟨rfl, _⟩ := hd))
    clear HC HAP TAIL z0 z2 u0 u2 x0 x2
    go_wp2_with fail
    go_end0
    exact F.out
  · by_cases hcv : cv = at_
    · have hga : g0 = at_ := by omega
      subst hga
      subst hcv
      obtain ⟨w3, hw3⟩ : ∃ w3, w3 = w2.drew := ⟨_, rfl⟩
      have hcp := run_copy_zero (P := Tryz.prog) w2.drew 55 9 3 5 (some ⟨g, 0, none⟩) 0 0 s Tryz.underlying55 (by rw [info5s]; rfl) (Nat.min_zero _)
      have hL : gl fs f ++ (bl s).drop 0 = splice (gl fs f) cv (bl s) := by rw [← HGM.out, splice_end, List.drop_zero]
      have hYw : Blk w3.drew w.heap.size 60 #[.string f, .int .i64 (cv : Nat), .string s] := by rw [hw3]; exact Y2.out
      obtain ⟨a', c', w4, hap, hY4, hC⟩ := TAIL.out w3.drew 0 _ (Nat.zero_le _) hL HGM.out (by rw [hw3]; exact O2.out) (by rw [hw3]; exact Fr.of_below (B2.out.trans ((Below.refl w2.heap.size w2).drew.drew.mono B2.out.size)) _) hYw
      rw [extract_all] at hap
      have HAP := Lib.hid hap
      have HC := Lib.hid hC
      have HY3 := Lib.hid hYw
      have HY4 := Lib.hid hY4
      have W3 := Lib.hid hw3
      clear hap hC hYw hY4 hL hw3
      go_wp2_with fail
      go_region
      rw [← W3.out]
      clear hcp z0 z1 z2 W3
      have z0 : w3.cell? ⟨w.heap.size, 0, none⟩ = some (.string f) := by have := HY3.out.cell 0; exact this
      have z2 : w3.cell? ⟨w.heap.size, 2, none⟩ = some (.string s) := by have := HY3.out.cell 2; exact this
      have u0 : w4.cell? ⟨w.heap.size, 0, none⟩ = some (.string f) := by have := HY4.out.cell 0; exact this
      have u2 : w4.cell? ⟨w.heap.size, 2, none⟩ = some (.string s) := by have := HY4.out.cell 2; exact this
      go_wp2_with fail
      go_region_held3 (fun w' => w'.cell? ⟨w.heap.size, 0, none⟩ = some (.string f) ∧ w'.cell? ⟨w.heap.size, 2, none⟩ = some (.string s))
        (first | assumption | exact ⟨‹_›, ‹_›⟩)
        (first | (refine step_append_run (by rfl) _ _ _ _ (by rfl) _ _ (by rfl) (by rfl) _ _ HAP.out ?_) | (go_at_call 35; refine HC.out.mono ?_; rintro e w5 ⟨hd, hY5⟩; have F := Lib.hid hd; have x0 : w5.cell? ⟨w.heap.size, 0, none⟩ = some (.string f) := by { have := hY5.cell 0; exact this }; have x2 : w5.cell? ⟨w.heap.size, 2, none⟩ = some (.string s) := by { have := hY5.cell 2; exact this }; obtain ⟨rfl, _⟩ := hd))
      clear HC HAP TAIL z0 z2 u0 u2 x0 x2
      go_wp2_with fail
      go_end0
      exact F.out
    · obtain ⟨k, hk⟩ : ∃ k, Nat.min s.size (g0 - at_) = k := ⟨_, rfl⟩
      obtain ⟨w3, hcp, o3, gr3, sz3⟩ := copy_own (w := w2.drew) O2.out HGM.out ha hk (cv - at_)
      have HK := Lib.hid hk
      have O3 := Lib.hid o3
      have GR3 := Lib.hid gr3
      clear hk o3 gr3 sz3
      have hkk : k ≤ s.size ∧ k ≤ g0 - at_ := by rw [← HK.out]; exact ⟨Nat.min_le_left _ _, Nat.min_le_right _ _⟩
      have hYg : g ≠ w.heap.size := fun e => by
        have h1 := HD.out.2.1
        rw [HV.out, e] at h1
        exact h1 rfl
      have hYw : Blk w3.drew w.heap.size 60 #[.string f, .int .i64 at_, .string s] := by
        have : Blk w2.drew w.heap.size 60 #[.string f, .int .i64 at_, .string s] := Y2.out
        have h3 : Blk w3 w.heap.size 60 #[.string f, .int .i64 at_, .string s] := this.fr (Fr.of_grown GR3.out) (fun e => hYg (Option.some.inj e).symm)
        exact h3
      have hfr : Fr w w3.drew (fun q => q = w.heap.size ∨ some q = (V f).ownBlock) := by
        have F1 : Fr w w2.drew (fun _ => False) := Fr.of_below (B2.out.trans ((Below.refl w2.heap.size w2).drew.mono B2.out.size)) _
        refine (F1.trans (Fr.of_grown GR3.out) (fun _ _ h => h.elim) (fun q _ h => .inr (by rw [HV.out]; exact h))).trans (fr_drew w3 (fun _ => False)) (fun _ _ h => h) (fun _ _ h => h.elim)
      obtain ⟨a', c', w4, hap, hY4, hC⟩ := TAIL.out w3.drew k _ hkk.1 (splice_parts (by rw [HGM.out]; exact ha) (by rw [bl_len, HGM.out]; exact HK.out.symm)) (by simp [HGM.out, bl_len]; omega) O3.out hfr hYw
      have HAP := Lib.hid hap
      have HC := Lib.hid hC
      have HY3 := Lib.hid hYw
      have HY4 := Lib.hid hY4
      clear hap hC hYw hY4 hfr
      go_wp2_with fail
      go_region
      clear hcp z0 z1 z2
      have hk1 := hkk.1
      have z0 : w3.cell? ⟨w.heap.size, 0, none⟩ = some (.string f) := by have := HY3.out.cell 0; exact this
      have z2 : w3.cell? ⟨w.heap.size, 2, none⟩ = some (.string s) := by have := HY3.out.cell 2; exact this
      have u0 : w4.cell? ⟨w.heap.size, 0, none⟩ = some (.string f) := by have := HY4.out.cell 0; exact this
      have u2 : w4.cell? ⟨w.heap.size, 2, none⟩ = some (.string s) := by have := HY4.out.cell 2; exact this
      go_wp2_with fail
      go_region_held3 (fun w' => w'.cell? ⟨w.heap.size, 0, none⟩ = some (.string f) ∧ w'.cell? ⟨w.heap.size, 2, none⟩ = some (.string s))
        (first | assumption | exact ⟨‹_›, ‹_›⟩)
        (first | (refine step_append_run (by rfl) _ _ _ _ (by rfl) _ _ (by rfl) (by rfl) _ _ HAP.out ?_) | (go_at_call 35; refine HC.out.mono ?_; rintro e w5 ⟨hd, hY5⟩; have F := Lib.hid hd; have x0 : w5.cell? ⟨w.heap.size, 0, none⟩ = some (.string f) := by { have := hY5.cell 0; exact this }; have x2 : w5.cell? ⟨w.heap.size, 2, none⟩ = some (.string s) := by { have := hY5.cell 2; exact this }; obtain ⟨rfl, _⟩ := hd))
      clear HC HAP TAIL z0 z2 u0 u2 x0 x2
      go_wp2_with fail
      go_end0
      exact F.out

end Go.Proofs.YthnnenhpcceckaaGreat
/-
  SMALL PARTS OF A DISK: a letter, a name, whether it is ready.
-/
namespace Go.Proofs.YthnnenhpcceckaaGreat
open Go.RowKit
/-- may a byte stand in a name? -/
def letB (b : Int) : Bool := (decide (97 ≤ b) && decide (b ≤ 122)) || (decide (48 ≤ b) && decide (b ≤ 57)) || b == 46 || b == 45
theorem letter_any (b : Int) (w : World) : Calls Tryz.prog 32 #[.int .u8 b] w fun e w' => e = .returned (.bool (letB b)) ∧ w = w' := by
  by_cases h1 : 97 ≤ b
  · by_cases h2 : b ≤ 122
    · have e : letB b = true := by simp [letB, h1, h2]
      rw [e]
      go_enter Tryz.func32, Tryz.ntmps32
      go_wp2_with fail
      go_ret
      exact ⟨rfl, rfl⟩
    · have h3 : ¬ b ≤ 57 := by omega
      have h4 : (b == 46) = false := by simp; omega
      have h5 : (b == 45) = false := by simp; omega
      have h6 : 48 ≤ b := by omega
      have e : letB b = false := by simp [letB, h2, h3, h4, h5]
      rw [e]
      go_enter Tryz.func32, Tryz.ntmps32
      go_wp2_with fail
      go_ret
      exact ⟨rfl, rfl⟩
  · by_cases h6 : 48 ≤ b
    · by_cases h3 : b ≤ 57
      · have e : letB b = true := by simp [letB, h6, h3]
        rw [e]
        go_enter Tryz.func32, Tryz.ntmps32
        go_wp2_with fail
        go_ret
        exact ⟨rfl, rfl⟩
      · have h4 : (b == 46) = false := by simp; omega
        have h5 : (b == 45) = false := by simp; omega
        have e : letB b = false := by simp [letB, h1, h3, h4, h5]
        rw [e]
        go_enter Tryz.func32, Tryz.ntmps32
        go_wp2_with fail
        go_ret
        exact ⟨rfl, rfl⟩
    · by_cases h4 : b = 46
      · subst h4
        have e : letB 46 = true := by decide
        rw [e]
        go_enter Tryz.func32, Tryz.ntmps32
        go_wp2_with fail
        go_ret
        exact ⟨rfl, rfl⟩
      · by_cases h5 : b = 45
        · subst h5
          have e : letB 45 = true := by decide
          rw [e]
          go_enter Tryz.func32, Tryz.ntmps32
          go_wp2_with fail
          go_ret
          exact ⟨rfl, rfl⟩
        · have h4' : (b == 46) = false := by simpa using h4
          have h5' : (b == 45) = false := by simpa using h5
          have e : letB b = false := by simp [letB, h1, h6, h4', h5']
          rw [e]
          clear h4 h5
          go_enter Tryz.func32, Tryz.ntmps32
          go_wp2_with fail
          go_ret
          exact ⟨rfl, rfl⟩
/-- a name -/
def nameB (s : Nm) : Bool := decide (1 ≤ s.size) && decide (s.size ≤ 64) && (bl s).all (fun b => letB (b.toNat : Int))
theorem nameB_size {s : Nm} (h : nameB s = true) : 1 ≤ s.size ∧ s.size ≤ 64 := by
  unfold nameB at h
  simp at h
  omega
theorem all_take {l : List UInt8} {p : UInt8 → Bool} {k : Nat} (h : (l.take k).all p = true) (hk : k < l.length) (hp : p l[k] = true) : (l.take (k + 1)).all p = true := by
  rw [List.take_add_one, List.getElem?_eq_getElem hk, List.all_append, h]
  simp [hp]
set_option maxHeartbeats 1000000 in
theorem name_any (s : Nm) (w : World) (hs : s.size ≤ 9223372036854775807) : Calls Tryz.prog 16 #[.string s] w fun e w' => e = .returned (.bool (nameB s)) ∧ w = w' := by
  by_cases h1 : s.size < 1
  · have e : nameB s = false := by unfold nameB; simp; omega
    rw [e]
    have h1' : (s.size : Int) < 1 := by omega
    go_enter Tryz.func16, Tryz.ntmps16
    go_wp2_with fail
    go_ret
    exact ⟨rfl, rfl⟩
  · by_cases h2 : 64 < s.size
    · have e : nameB s = false := by unfold nameB; simp; omega
      rw [e]
      have h1' : ¬ (s.size : Int) < 1 := by omega
      have h2' : (64 : Int) < (s.size : Int) := by omega
      go_enter Tryz.func16, Tryz.ntmps16
      go_wp2_with fail
      go_ret
      exact ⟨rfl, rfl⟩
    · have h1' : ¬ (s.size : Int) < 1 := by omega
      have h2' : ¬ (64 : Int) < (s.size : Int) := by omega
      have e0 : nameB s = (bl s).all (fun b => letB (b.toNat : Int)) := by
        unfold nameB
        have a1 : decide (1 ≤ s.size) = true := by simp; omega
        have a2 : decide (s.size ≤ 64) = true := by simp; omega
        rw [a1, a2]; rfl
      rw [e0]
      go_enter Tryz.func16, Tryz.ntmps16
      go_wp2_with fail
      go_loop [14] (fun i => ∃ k : Nat, k ≤ s.size ∧ i = .int .i64 k ∧ ((bl s).take k).all (fun b => letB (b.toNat : Int)) = true) (fun i => s.size - (intOf i).toNat)
      case atStart => exact ⟨0, Nat.zero_le _, rfl, rfl⟩
      case round =>
        obtain ⟨k, hk, rfl, hr⟩ := hrel
        have HR := Lib.hid hr
        clear hr
        by_cases hlt : k < s.size
        · have hb : k < (bl s).length := by rw [bl_len]; exact hlt
          have hg : (bl s)[k] = s[k] := rfl
          have HA := Lib.hid (fun hp => all_take (p := fun b => letB (b.toNat : Int)) HR.out hb hp)
          by_cases hl : letB (s[k].toNat : Int) = true
          · have L := fun w => letter_any (s[k].toNat : Int) w
            rw [hl] at L
            have HN := Lib.hid (HA.out (by rw [hg]; exact hl))
            clear hl hg
            go_wp2_with (go_at_call 32; refine (L _).mono ?_; rintro e w' ⟨rfl, rfl⟩)
            go_round
            case rel => exact ⟨k + 1, by omega, by go_num, HN.out⟩
            case measure => simp [intOf]; omega
          · have hl' : letB (s[k].toNat : Int) = false := by simpa using hl
            have L := fun w => letter_any (s[k].toNat : Int) w
            rw [hl'] at L
            have HN : Hid ((bl s).all (fun b => letB (b.toNat : Int)) = false) := Lib.hid (by
              rw [List.all_eq_false]
              exact ⟨(bl s)[k], List.getElem_mem hb, by rw [hg, hl']; simp⟩)
            clear hl hg hl'
            go_wp2_with (go_at_call 32; refine (L _).mono ?_; rintro e w' ⟨rfl, rfl⟩)
            go_ret
            exact ⟨by rw [HN.out]; rfl, rfl⟩
        · have hkk : k = s.size := by omega
          have HN : Hid ((bl s).all (fun b => letB (b.toNat : Int)) = true) := Lib.hid (by
            have := HR.out
            rw [hkk, ← bl_len, List.take_length] at this
            exact this)
          clear hkk
          go_wp2_with fail
          go_ret
          exact ⟨by rw [HN.out]; rfl, rfl⟩
end Go.Proofs.YthnnenhpcceckaaGreat
/-
  A DISK IN MEMORY.
-/
namespace Go.Proofs.YthnnenhpcceckaaGreat
open Go.RowKit
/-- a disk -/
structure St where
  sure : Fm
  now : Fm
  row : List Chg
  room : Int
  calls : Int
  trip : Int
  keep : Int
  down : Bool
def dcells (M1 M2 : Nat) (v : Value) (S : St) : Array Value :=
  #[.map (some M1), .int .i64 (sz S.sure), .map (some M2), .int .i64 (sz S.now), v, .int .i64 S.room, .int .i64 S.calls, .int .i64 S.trip, .int .i64 S.keep, .bool S.down]
/-- where it lies -/
structure Lie where
  M1 : Nat
  M2 : Nat
  V1 : Nm → Value
  V2 : Nm → Value
  v : Value
/-- the blocks of a disk -/
def Lie.foot (L : Lie) (D q : Nat) : Prop := q = D ∨ Foot L.M1 L.V1 q ∨ Foot L.M2 L.V2 q ∨ L.v.ownBlock = some q
structure DkL (w : World) (B D m : Nat) (S : St) (L : Lie) : Prop where
  blk : Blk w D 54 (dcells L.M1 L.M2 L.v S)
  f1 : Fls w B L.M1 m S.sure L.V1
  f2 : Fls w B L.M2 m S.now L.V2
  row : w.ownsRow B 62 1 L.v S.row.length (S.row.map Chg.val)
  g1 : Good S.sure m
  g2 : Good S.now m
  few : S.row.length ≤ m
  d1 : ¬ Foot L.M1 L.V1 D
  d2 : ¬ Foot L.M2 L.V2 D
  d12 : ∀ q, Foot L.M1 L.V1 q → ¬ Foot L.M2 L.V2 q
  dv : ∀ q, L.v.ownBlock = some q → q ≠ D ∧ ¬ Foot L.M1 L.V1 q ∧ ¬ Foot L.M2 L.V2 q
  base : B ≤ D
  calls : 0 ≤ S.calls ∧ S.calls ≤ m
  trip : 0 ≤ S.trip
  low : m ≤ 100000
def Dk (w : World) (B D m : Nat) (S : St) (F : Nat → Prop) : Prop := ∃ L, DkL w B D m S L ∧ ∀ q, L.foot D q → F q
theorem DkL.lt {w : World} {B D m : Nat} {S : St} {L : Lie} (h : DkL w B D m S L) {q : Nat} (hq : L.foot D q) : B ≤ q ∧ q < w.heap.size := by
  rcases hq with rfl | hq | hq | hq
  · exact ⟨h.base, h.blk.lt⟩
  · exact h.f1.lt hq
  · exact h.f2.lt hq
  · exact World.ownsRow.lt h.row q hq
theorem DkL.fr {w w' : World} {B D m : Nat} {S : St} {L : Lie} {P : Nat → Prop} (h : DkL w B D m S L) (hf : Fr w w' P) (hP : ∀ q, L.foot D q → ¬ P q) : DkL w' B D m S L := by
  refine { h with blk := h.blk.fr hf (hP D (.inl rfl)), f1 := h.f1.fr hf (fun q hq => hP q (.inr (.inl hq))), f2 := h.f2.fr hf (fun q hq => hP q (.inr (.inr (.inl hq)))), row := ?_ }
  have hr := h.row
  refine ⟨hr.1, ?_⟩
  rcases hr.2 with hn | ⟨g, cap, cur, e, hB, hh, rest⟩
  · exact .inl hn
  · refine .inr ⟨g, cap, cur, e, hB, ?_, rest⟩
    rw [hf.block g (Array.getElem?_eq_some_iff.1 hh).1 (hP g (.inr (.inr (.inr (by rw [e]; rfl)))))]
    exact hh
theorem DkL.below {w w' : World} {B D m : Nat} {S : St} {L : Lie} (h : DkL w B D m S L) (hb : Below w.heap.size w w') : DkL w' B D m S L := h.fr (Fr.of_below hb (fun _ => False)) (fun _ _ h => h)
/-- whether it is ready -/
def readyE (S : St) : Int := if S.down then 8 else 0
theorem ready_nil (w : World) : Calls Tryz.prog 15 #[.pointer none] w fun e w' => e = .returned (.int .i64 1) ∧ w = w' := by
  go_enter Tryz.func15, Tryz.ntmps15
  go_wp2_with fail
  go_ret
  exact ⟨rfl, rfl⟩
theorem ready_any {w : World} {D : Nat} {t : TypeId} {M1 M2 : Nat} {v : Value} {S : St} (h : Blk w D t (dcells M1 M2 v S)) : Calls Tryz.prog 15 #[.pointer (some ⟨D, 0, none⟩)] w fun e w' => e = .returned (.int .i64 (readyE S)) ∧ w = w' := by
  have c : w.cell? ⟨D, 9, none⟩ = some (.bool S.down) := h.cell 9
  unfold readyE
  generalize S.down = b at *
  clear h
  cases b
  · go_enter Tryz.func15, Tryz.ntmps15
    go_wp2_with fail
    go_ret
    exact ⟨rfl, rfl⟩
  · go_enter Tryz.func15, Tryz.ntmps15
    go_wp2_with fail
    go_ret
    exact ⟨rfl, rfl⟩
/-- 'files{named: map[string][]byte{}}' -/
theorem blank_any {w : World} {B : Nat} (hB : B ≤ w.heap.size) : Calls Tryz.prog 14 #[] w fun e w' => ∃ M, e = .returned (.agg #[.map (some M), .int .i64 0]) ∧ Fls w' B M 0 [] (fun _ => nilS) ∧ Below w.heap.size w w' ∧ w.heap.size ≤ M := by
  have hmm := @run_makeMap Tryz.prog
  go_enter Tryz.func14, Tryz.ntmps14
  go_wp2_with fail
  refine bodyPost_ret (by simp [results, Tryz.results14, go_sem]; try rfl) rfl ?_
  refine ⟨w.heap.size + 1, rfl, ?_, ((Below.refl _ _).alloc (Nat.le_refl _) _).alloc (by simp) _, by omega⟩
  have := Fls.made (w.alloc (Obj.cells #[.map (some (w.heap.size + 1)), .int .i64 0] 50)) (B := B) (by simp; omega)
  simpa using this
/-- New -/
def st0 : St := ⟨[], [], [], -1, 0, 0, 0, false⟩
theorem good_nil (m : Nat) : Good [] m := ⟨List.Pairwise.nil, Nat.zero_le _, fun p hp => by simp at hp⟩
theorem foot_nil {M q : Nat} (h : Foot M (fun _ => nilS) q) : q = M := by
  rcases h with h | ⟨s, e⟩
  · exact h
  · simp [nilS, Value.ownBlock] at e
theorem new_any {w : World} {B : Nat} (hB : B ≤ w.heap.size) : Calls Tryz.prog 4 #[] w fun e w' => ∃ D, e = .returned (.pointer (some ⟨D, 0, none⟩)) ∧ Dk w' B D 0 st0 (fun q => w.heap.size ≤ q) ∧ Below w.heap.size w w' ∧ w.heap.size ≤ D := by
  go_enter Tryz.func4, Tryz.ntmps4
  go_wp2_with fail
  refine (blank_any hB).mono ?_
  rintro e w1 ⟨M1, rfl, h1, b1, l1⟩
  have H1 := Lib.hid h1
  have hM1 := (h1.lt (.inl rfl)).2
  clear h1
  go_wp2_with fail
  refine (blank_any (B := B) (Nat.le_trans hB b1.size)).mono ?_
  rintro e w2 ⟨M2, rfl, h2, b2, l2⟩
  have H2 := Lib.hid h2
  have hM2 := (h2.lt (.inl rfl)).2
  have BB := Lib.hid (b1.trans (b2.mono b1.size))
  have H1' := Lib.hid (H1.out.below b2)
  have hs1 := b1.size
  have hs2 := b2.size
  clear h2 b1 b2
  go_wp2_with fail
  go_ret
  have b3 : Below w2.heap.size w2 (w2.alloc (Obj.cells (dcells M1 M2 nilS st0) 54)) := (Below.refl _ _).alloc (Nat.le_refl _) _
  refine ⟨w2.heap.size, rfl, ⟨⟨M1, M2, fun _ => nilS, fun _ => nilS, nilS⟩, ?_, ?_⟩, BB.out.trans (b3.mono BB.out.size), by omega⟩
  · refine ⟨Blk.new _ _ _, H1'.out.below b3, H2.out.below b3, World.ownsRow_nil _ _ _ _, good_nil _, good_nil _, Nat.le_refl _, fun h => ?_, fun h => ?_, fun q h h' => ?_, fun q h => ?_, by omega, ⟨Int.le_refl _, Int.le_refl _⟩, Int.le_refl _, Nat.zero_le _⟩
    · have := foot_nil h; simp only at this; omega
    · have := foot_nil h; simp only at this; omega
    · have e1 := foot_nil h; have e2 := foot_nil h'; simp only at e1 e2; omega
    · simp [nilS, Value.ownBlock] at h
  · intro q hq
    rcases hq with rfl | hq | hq | hq
    · show w.heap.size ≤ w2.heap.size; omega
    · have := foot_nil hq; simp only at this; show w.heap.size ≤ q; omega
    · have := foot_nil hq; simp only at this; show w.heap.size ≤ q; omega
    · simp [nilS, Value.ownBlock] at hq
end Go.Proofs.YthnnenhpcceckaaGreat
/-
  WHAT A CHANGE COSTS; a torn one.
-/
namespace Go.Proofs.YthnnenhpcceckaaGreat
open Go.RowKit
def Chg.cost : Chg → Int
  | .put _ _ s => 1 + s.size
  | _ => 1
/-- the type, what it holds, the function of its cost -/
def Chg.ty : Chg → TypeId
  | .put _ _ _ => 60
  | .trim _ _ => 85
  | .move _ _ => 87
  | .drop _ => 90
def Chg.in_ : Chg → Value
  | .put f a s => .agg #[.string f, .int .i64 a, .string s]
  | .trim f n => .agg #[.string f, .int .i64 n]
  | .move f t => .agg #[.string f, .string t]
  | .drop f => .agg #[.string f]
def Chg.fn : Chg → FuncId
  | .put _ _ _ => 133
  | .trim _ _ => 134
  | .move _ _ => 135
  | .drop _ => 136
theorem Chg.val_eq (c : Chg) : c.val = .iface c.ty c.in_ := by cases c <;> rfl
theorem cost_put (f : Nm) (a : Nat) (s : ByteArray) (hs : s.size ≤ 4194304) (w : World) : Calls Tryz.prog 133 #[(Chg.put f a s).in_] w fun e w' => e = .returned (.int .i64 (1 + s.size)) ∧ Below w.heap.size w w' := by
  unfold Chg.in_
  go_enter Tryz.func133, Tryz.ntmps133
  go_wp2_with fail
  go_ret
  exact ⟨rfl, (Below.refl _ _).alloc (Nat.le_refl _) _⟩
theorem cost_trim (f : Nm) (n : Nat) (w : World) : Calls Tryz.prog 134 #[(Chg.trim f n).in_] w fun e w' => e = .returned (.int .i64 1) ∧ Below w.heap.size w w' := by
  unfold Chg.in_
  go_enter Tryz.func134, Tryz.ntmps134
  go_wp2_with fail
  go_ret
  exact ⟨rfl, (Below.refl _ _).alloc (Nat.le_refl _) _⟩
theorem cost_move (f t : Nm) (w : World) : Calls Tryz.prog 135 #[(Chg.move f t).in_] w fun e w' => e = .returned (.int .i64 1) ∧ Below w.heap.size w w' := by
  unfold Chg.in_
  go_enter Tryz.func135, Tryz.ntmps135
  go_wp2_with fail
  go_ret
  exact ⟨rfl, (Below.refl _ _).alloc (Nat.le_refl _) _⟩
theorem cost_drop (f : Nm) (w : World) : Calls Tryz.prog 136 #[(Chg.drop f).in_] w fun e w' => e = .returned (.int .i64 1) ∧ Below w.heap.size w w' := by
  unfold Chg.in_
  go_enter Tryz.func136, Tryz.ntmps136
  go_wp2_with fail
  go_ret
  exact ⟨rfl, (Below.refl _ _).alloc (Nat.le_refl _) _⟩
theorem Chg.cost_any (c : Chg) (hc : c.cost ≤ 4194305) (w : World) : Calls Tryz.prog c.fn #[c.in_] w fun e w' => e = .returned (.int .i64 c.cost) ∧ Below w.heap.size w w' := by
  cases c with
  | put f a s => exact cost_put f a s (by unfold Chg.cost at hc; simp only at hc; omega) w
  | trim f n => exact cost_trim f n w
  | move f t => exact cost_move f t w
  | drop f => exact cost_drop f w
theorem torn_any (f : Nm) (a n : Nat) (s : ByteArray) (hn : n ≤ s.size) (w : World) : Calls Tryz.prog 77 #[(Chg.put f a s).in_, .int .i64 n] w fun e w' => e = .returned (Chg.put f a (s.extract 0 n)).in_ ∧ Below w.heap.size w w' := by
  unfold Chg.in_
  simp only
  go_enter Tryz.func77, Tryz.ntmps77
  go_wp2_with fail
  refine bodyPost_ret (by simp [results, Tryz.results77, go_sem]; try rfl) rfl ?_
  exact ⟨rfl, ((Below.refl _ _).alloc (Nat.le_refl _) _).alloc (by simp) _⟩
end Go.Proofs.YthnnenhpcceckaaGreat
/-
  ANY CHANGE IS DONE; what is kept of a row.
-/
namespace Go.Proofs.YthnnenhpcceckaaGreat
open Go.RowKit
theorem do_any {w : World} {B D M n T o m : Nat} {cs : Array Value} {fs : Fm} {V : Nm → Value} (c : Chg) (h : Fls w B M n fs V) (hB : Blk w D T cs) (h0 : cs[o]? = some (.map (some M))) (h1 : cs[o + 1]? = some (.int .i64 (sz fs))) (hF : ¬ Foot M V D) (hBD : B ≤ w.heap.size)
    (hG : Good fs m) (hm : m ≤ 100000) (hn : n < 1000000) (hc : c.may fs) : Calls Tryz.prog 20 #[.pointer (some ⟨D, o, none⟩), c.val] w (Done w B D M (n + 1) T o cs V (c.doF fs)) := by
  cases c with
  | put f a s => exact do_put h hB h0 h1 hF hBD hG hm hn hc.1 hc.2.1 hc.2.2
  | trim f k => exact do_trim h hB h0 h1 hF hG hm hn hc.1 hc.2
  | move f t => exact do_move h hB h0 h1 hF hG hm hn hc.1 hc.2
  | drop f => exact do_drop h hB h0 h1 hF hG hm hn hc
/-- the row may be done, one change behind the other -/
def mayAll : Fm → List Chg → Prop
  | _, [] => True
  | fs, c :: r => c.may fs ∧ mayAll (c.doF fs) r
/-- files behind a row -/
def doAll (fs : Fm) (r : List Chg) : Fm := r.foldl (fun fs c => c.doF fs) fs
/-- of the first one that is not kept -/
def tornF (fs : Fm) (c : Chg) (k : Int) : Fm :=
  match c with
  | .put f a s => if 0 < k then (Chg.put f a (s.extract 0 (k - 1).toNat)).doF fs else fs
  | _ => fs
/-- what is kept of a row -/
def keepF : Fm → List Chg → Int → Fm
  | fs, [], _ => fs
  | fs, c :: r, k => if k < c.cost then tornF fs c k else keepF (c.doF fs) r (k - c.cost)
theorem mayAll_at {fs : Fm} {r : List Chg} {i : Nat} (h : mayAll fs r) (hi : i < r.length) : r[i].may (doAll fs (r.take i)) := by
  induction r generalizing fs i with
  | nil => simp at hi
  | cons c r ih =>
    cases i with
    | zero => exact h.1
    | succ i => exact ih h.2 (by simpa using hi)
theorem cost_pos (c : Chg) : 1 ≤ c.cost := by cases c <;> simp only [Chg.cost] <;> omega
theorem may_cost {c : Chg} {fs : Fm} (h : c.may fs) : c.cost ≤ 4194305 := by
  cases c with
  | put f a s => have := h.2.2; simp [Chg.cost]; omega
  | _ => simp [Chg.cost]
/-- the first of two files of a disk -/
theorem DkL.doSure {w : World} {B D m : Nat} {S : St} {L : Lie} (h : DkL w B D m S L) (hm : m < 100000) {c : Chg} (hc : c.may S.sure) :
    Calls Tryz.prog 20 #[.pointer (some ⟨D, 0, none⟩), c.val] w fun e w' => e = .returned (.tuple #[]) ∧ ∃ V1, DkL w' B D (m + 1) { S with sure := c.doF S.sure } { L with V1 := V1 } ∧ Fr w w' (fun q => q = D ∨ Foot L.M1 L.V1 q) ∧ ∀ q, Foot L.M1 V1 q → Foot L.M1 L.V1 q ∨ w.heap.size ≤ q := by
  refine (do_any (o := 0) c h.f1 h.blk rfl rfl h.d1 (Nat.le_trans h.base (Nat.le_of_lt h.blk.lt)) h.g1 (by omega) (by omega) hc).mono fun e w' hd => ?_
  obtain ⟨he, V1, f1, b1, F, hN⟩ := hd
  have hfoot : ∀ q, L.foot D q → q < w.heap.size := fun q hq => (h.lt hq).2
  have h2P : ∀ q, Foot L.M2 L.V2 q → ¬ (q = D ∨ Foot L.M1 L.V1 q) := fun q hq hh => by
    rcases hh with rfl | hh
    · exact h.d2 hq
    · exact h.d12 q hh hq
  have hvP : ∀ q, L.v.ownBlock = some q → ¬ (q = D ∨ Foot L.M1 L.V1 q) := fun q hq hh => by
    obtain ⟨a1, a2, _⟩ := h.dv q hq
    rcases hh with rfl | hh
    · exact a1 rfl
    · exact a2 hh
  have hrow : w'.ownsRow B 62 1 L.v S.row.length (S.row.map Chg.val) := by
    have hr := h.row
    refine ⟨hr.1, ?_⟩
    rcases hr.2 with hn | ⟨g, cap, cur, e, hB, hh, rest⟩
    · exact .inl hn
    · refine .inr ⟨g, cap, cur, e, hB, ?_, rest⟩
      rw [F.block g (Array.getElem?_eq_some_iff.1 hh).1 (hvP g (by rw [e]; rfl))]
      exact hh
  refine ⟨he, V1, ⟨b1, f1, (h.f2.fr F h2P).mono (Nat.le_succ m), hrow, h.g1.doF hc, ⟨h.g2.uniq, Nat.le_succ_of_le h.g2.few, h.g2.small⟩, Nat.le_succ_of_le h.few, fun hq => ?_, h.d2, fun q hq hq2 => ?_, fun q hq => ?_, h.base, ⟨h.calls.1, by have := h.calls.2; simp only; omega⟩, h.trip, by omega⟩, F, hN⟩
  · rcases hN D hq with hh | hh
    · exact h.d1 hh
    · have := h.blk.lt; omega
  · rcases hN q hq with hh | hh
    · exact h.d12 q hh hq2
    · have := hfoot q (.inr (.inr (.inl hq2))); omega
  · obtain ⟨a1, a2, a3⟩ := h.dv q hq
    refine ⟨a1, fun hh => ?_, a3⟩
    rcases hN q hh with hh | hh
    · exact a2 hh
    · have := hfoot q (.inr (.inr (.inr hq))); omega
end Go.Proofs.YthnnenhpcceckaaGreat
/-
  A DISK: what asks, and what sets a number.
-/
namespace Go.Proofs.YthnnenhpcceckaaGreat
open Go.RowKit
section
variable {w : World} {B D m : Nat} {S : St} {L : Lie}
/-- the cells of a disk, changed -/
theorem DkL.turn (h : DkL w B D m S L) {i : Nat} {u : Value} {S' : St} (e : (dcells L.M1 L.M2 L.v S).setIfInBounds i u = dcells L.M1 L.M2 L.v S') (e1 : S'.sure = S.sure) (e2 : S'.now = S.now) (e3 : S'.row = S.row) (hc : 0 ≤ S'.calls ∧ S'.calls ≤ m) (ht : 0 ≤ S'.trip) :
    DkL (w.setCell ⟨D, i, none⟩ u) B D m S' L := by
  have F := fr_set w D i u
  have hb := h.blk.set i u
  rw [e] at hb
  have h1 := h.f1.fr F (fun q hq e => h.d1 (e ▸ hq))
  have h2 := h.f2.fr F (fun q hq e => h.d2 (e ▸ hq))
  have hr : (w.setCell ⟨D, i, none⟩ u).ownsRow B 62 1 L.v S.row.length (S.row.map Chg.val) :=
    World.ownsRow.kept h.row (row := some D) ⟨F.os, F.tape, F.output, F.size, fun q hq hne => F.block q hq (fun e => hne (by rw [e]))⟩ (by
      cases hv : L.v.ownBlock with
      | none => exact .inl rfl
      | some q => exact .inr (fun e => (h.dv q hv).1 (Option.some.inj e)))
  exact ⟨hb, by rw [e1]; exact h1, by rw [e2]; exact h2, by rw [e3]; exact hr, by rw [e1]; exact h.g1, by rw [e2]; exact h.g2, by rw [e3]; exact h.few, h.d1, h.d2, h.d12, h.dv, h.base, hc, ht, h.low⟩
end
/-- what find tells -/
def findV (S : St) (V : Nm → Value) (s : Nm) : Value × Int :=
  if S.down then (nilS, 8) else if nameB s then (match get S.now s with | some _ => (V s, 0) | none => (nilS, 4)) else (nilS, 1)
theorem zero55' (w : World) : (zeroValue 55).run Tryz.prog w = .ok nilS w := zero55 w
set_option maxHeartbeats 1000000 in
set_option maxRecDepth 100000 in
theorem find_any {w : World} {B D m : Nat} {S : St} {L : Lie} (h : DkL w B D m S L) (s : Nm) (hs : s.size ≤ 9223372036854775807) :
    Calls Tryz.prog 39 #[.pointer (some ⟨D, 0, none⟩), .string s] w fun e w' => e = .returned (.tuple #[(findV S L.V2 s).1, .int .i64 (findV S L.V2 s).2]) ∧ w = w' := by
  have R := Lib.hid (ready_any h.blk)
  have N := Lib.hid (name_any s w hs)
  unfold findV
  unfold readyE at R
  have c : w.cell? ⟨D, 2, none⟩ = some (.map (some L.M2)) := h.blk.cell 2
  have LK := h.f2.look_ok (s := s) (by unfold maxLen; omega)
  clear h
  generalize S.down = b at *
  cases b
  · simp only [Bool.false_eq_true, if_false] at R ⊢
    generalize nameB s = nb at *
    cases nb
    · clear LK c
      go_enter Tryz.func39, Tryz.ntmps39
      go_wp2_with fail
      refine R.out.mono ?_
      rintro e w1 ⟨rfl, rfl⟩
      go_wp2_with fail
      refine N.out.mono ?_
      rintro e w1 ⟨rfl, rfl⟩
      go_wp2_with fail
      go_ret2
      exact ⟨rfl, rfl⟩
    · cases hg : get S.now s with
      | none =>
        rw [hg] at LK
        simp only [Option.isSome_none] at LK
        clear hg
        go_enter Tryz.func39, Tryz.ntmps39
        go_wp2_with fail
        refine R.out.mono ?_
        rintro e w1 ⟨rfl, rfl⟩
        go_wp2_with fail
        refine N.out.mono ?_
        rintro e w1 ⟨rfl, rfl⟩
        go_wp2_with fail
        go_ret2
        exact ⟨rfl, rfl⟩
      | some l =>
        rw [hg] at LK
        simp only [Option.isSome_some] at LK
        clear hg
        go_enter Tryz.func39, Tryz.ntmps39
        go_wp2_with fail
        refine R.out.mono ?_
        rintro e w1 ⟨rfl, rfl⟩
        go_wp2_with fail
        refine N.out.mono ?_
        rintro e w1 ⟨rfl, rfl⟩
        go_wp2_with fail
        go_ret2
        exact ⟨rfl, rfl⟩
  · clear LK c N
    go_enter Tryz.func39, Tryz.ntmps39
    go_wp2_with fail
    refine R.out.mono ?_
    rintro e w1 ⟨rfl, rfl⟩
    go_wp2_with fail
    go_ret2
    exact ⟨rfl, rfl⟩
theorem find_nil (s : Nm) (w : World) : Calls Tryz.prog 39 #[.pointer none, .string s] w fun e w' => e = .returned (.tuple #[nilS, .int .i64 1]) ∧ w = w' := by
  go_enter Tryz.func39, Tryz.ntmps39
  go_wp2_with fail
  refine (ready_nil _).mono ?_
  rintro e w1 ⟨rfl, rfl⟩
  go_wp2_with fail
  go_ret2
  exact ⟨rfl, rfl⟩
end Go.Proofs.YthnnenhpcceckaaGreat
/-
  A DISK: Read, Used, Waits, Trip.
-/
namespace Go.Proofs.YthnnenhpcceckaaGreat
open Go.RowKit
def str (l : List UInt8) : ByteArray := ⟨l.toArray⟩
theorem bl_str (l : List UInt8) : bl (str l) = l := by simp [bl, str]
theorem str_bl (s : ByteArray) : str (bl s) = s := by simp [bl, str]
theorem conv_own {w : World} {B : Nat} {v : Value} {l : List UInt8} (h : w.ownsRow B 5 1 v l.length (bcells l)) : (convert 55 9 v).run Tryz.prog w = .ok (.string (str l)) w := by
  rcases h.2 with ⟨rfl, e⟩ | ⟨g, cap, cur, rfl, hB, hg, _⟩
  · have e0 := List.eq_nil_of_length_eq_zero e
    subst e0
    exact run_convert_bytes_nil (P := Tryz.prog) w 55 5 Tryz.underlying55 Tryz.underlying5 0 0 9 Tryz.underlying9
  · refine run_convert_bytes_back (P := Tryz.prog) w 55 9 5 ⟨g, 0, none⟩ cap l Tryz.underlying55 Tryz.underlying5 Tryz.underlying9 (fun j hj => ?_)
    have e1 : (⟨g, 0, none⟩ : Addr).add j = ⟨g, j, none⟩ := by unfold Addr.add; split <;> simp_all
    have := World.ownsRow.cellAt h j (by omega)
    rw [e1, this]
    unfold bcells
    rw [List.getElem?_map, List.getElem?_eq_getElem hj]
    rfl
/-- what Read tells -/
def readV (S : St) (s : Nm) : ByteArray × Int :=
  if S.down then (str [], 8) else if nameB s then (match get S.now s with | some l => (str l, 0) | none => (str [], 4)) else (str [], 1)
theorem findV_own {w : World} {B D m : Nat} {S : St} {L : Lie} (h : DkL w B D m S L) (s : Nm) : ∃ l, w.ownsRow B 5 1 (findV S L.V2 s).1 l.length (bcells l) ∧ (readV S s).1 = str l ∧ (readV S s).2 = (findV S L.V2 s).2 := by
  unfold findV readV
  cases S.down
  · simp only [Bool.false_eq_true, if_false]
    cases nameB s
    · exact ⟨[], World.ownsRow_nil _ _ _ _, rfl, rfl⟩
    · cases hg : get S.now s with
      | none => exact ⟨[], World.ownsRow_nil _ _ _ _, rfl, rfl⟩
      | some l =>
        have := h.f2.own s
        have e : gl S.now s = l := by unfold gl; rw [hg]; rfl
        rw [e] at this
        exact ⟨l, this, rfl, rfl⟩
  · exact ⟨[], World.ownsRow_nil _ _ _ _, rfl, rfl⟩
theorem read_any {w : World} {B D m : Nat} {S : St} {L : Lie} (h : DkL w B D m S L) (s : Nm) (hs : s.size ≤ 9223372036854775807) :
    Calls Tryz.prog 22 #[.pointer (some ⟨D, 0, none⟩), .string s] w fun e w' => e = .returned (.tuple #[.string (readV S s).1, .int .i64 (readV S s).2]) ∧ w = w' := by
  have F := Lib.hid (find_any h s hs)
  obtain ⟨l, ho, e1, e2⟩ := findV_own h s
  have C := conv_own ho
  rw [e1, e2]
  clear h e1 e2 ho
  generalize findV S L.V2 s = p at *
  obtain ⟨v, e⟩ := p
  simp only at C F
  go_enter Tryz.func22, Tryz.ntmps22
  go_wp2_with fail
  refine F.out.mono ?_
  rintro r w1 ⟨rfl, rfl⟩
  go_wp2_with fail
  go_ret2
  exact ⟨rfl, rfl⟩
theorem read_nil (s : Nm) (w : World) : Calls Tryz.prog 22 #[.pointer none, .string s] w fun e w' => e = .returned (.tuple #[.string (str []), .int .i64 1]) ∧ w = w' := by
  have C := run_convert_bytes_nil (P := Tryz.prog) w 55 5 Tryz.underlying55 Tryz.underlying5 0 0 9 Tryz.underlying9
  have C2 : (convert 55 9 nilS).run Tryz.prog w = .ok (.string (str [])) w := C
  have F := Lib.hid (find_nil s w)
  clear C
  generalize nilS = v at *
  go_enter Tryz.func22, Tryz.ntmps22
  go_wp2_with fail
  refine F.out.mono ?_
  rintro r w1 ⟨rfl, rfl⟩
  go_wp2_with fail
  go_ret2
  exact ⟨rfl, rfl⟩
theorem row_form {w : World} {B : Nat} {v : Value} {n : Nat} {xs : List Value} (h : w.ownsRow B 62 1 v n xs) : ∃ a c, v = .slice a n c := by
  rcases h.2 with ⟨rfl, e⟩ | ⟨g, cap, cur, rfl, _⟩
  · exact ⟨none, 0, by rw [e]⟩
  · exact ⟨_, _, rfl⟩
end Go.Proofs.YthnnenhpcceckaaGreat
