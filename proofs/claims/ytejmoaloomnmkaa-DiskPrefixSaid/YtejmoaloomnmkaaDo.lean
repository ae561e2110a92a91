/-
  A CHANGE IS DONE: trim, move, drop.
-/
import Derived.Test.YtejmoaloomnmkaaPutp
import Derived.Deep.RegionHeld3
namespace Go.Proofs.Ytejmoaloomnmkaa
open Go.RowKit
/-- a change -/
inductive Chg where
  | put (f : Nm) (at_ : Nat) (s : ByteArray)
  | trim (f : Nm) (n : Nat)
  | move (f t : Nm)
  | drop (f : Nm)
/-- as it lies in the row -/
def Chg.val : Chg → Value
  | .put f a s => .iface 60 (.agg #[.string f, .int .i64 a, .string s])
  | .trim f n => .iface 84 (.agg #[.string f, .int .i64 n])
  | .move f t => .iface 86 (.agg #[.string f, .string t])
  | .drop f => .iface 89 (.agg #[.string f])
/-- files behind a change -/
def Chg.doF (fs : Fm) : Chg → Fm
  | .put f a s => Ytejmoaloomnmkaa.put fs f (splice (gl fs f) a (bl s))
  | .trim f n => Ytejmoaloomnmkaa.put fs f ((gl fs f).take n)
  | .move f t => Ytejmoaloomnmkaa.put (del fs f) t (gl fs f)
  | .drop f => del fs f
/-- it may be done -/
def Chg.may (fs : Fm) : Chg → Prop
  | .put f a s => f.size ≤ 64 ∧ a ≤ (gl fs f).length ∧ a + s.size ≤ 4194304
  | .trim f n => f.size ≤ 64 ∧ n ≤ (gl fs f).length
  | .move f t => f.size ≤ 64 ∧ t.size ≤ 64
  | .drop f => f.size ≤ 64
/-- files of which no number is too great -/
structure Good (fs : Fm) (m : Nat) : Prop where
  uniq : Uniq fs
  few : fs.length ≤ m
  small : ∀ p ∈ fs, p.2.length ≤ 4194304
theorem gl_small {fs : Fm} (h : ∀ p ∈ fs, p.2.length ≤ 4194304) (s : Nm) : (gl fs s).length ≤ 4194304 := by
  unfold gl get
  cases hf : fs.find? (fun p => decide (p.1 = s)) with
  | none => exact Nat.zero_le _
  | some p => exact h p (List.mem_of_find?_eq_some hf)
theorem Good.gl_le {fs : Fm} {m : Nat} (h : Good fs m) (s : Nm) : (gl fs s).length ≤ 4194304 := gl_small h.small s
theorem gl_le_sz {fs : Fm} (h : Uniq fs) (s : Nm) : (gl fs s).length ≤ sz fs := by have := sz_del h s; omega
theorem sz_small {fs : Fm} (h : ∀ p ∈ fs, p.2.length ≤ 4194304) : sz fs ≤ fs.length * 4194304 := by
  unfold sz
  induction fs with
  | nil => exact Nat.le_refl _
  | cons p fs ih =>
    have h1 := h p (by simp)
    have h2 := ih (fun q hq => h q (List.mem_cons_of_mem _ hq))
    rw [List.map_cons, List.sum_cons, List.length_cons, Nat.succ_mul]
    omega
theorem Good.sz_le {fs : Fm} {m : Nat} (h : Good fs m) : sz fs ≤ m * 4194304 :=
  Nat.le_trans (sz_small h.small) (Nat.mul_le_mul_right _ h.few)
theorem Good.del {fs : Fm} {m : Nat} (h : Good fs m) (s : Nm) : Good (del fs s) m :=
  ⟨uniq_del h.uniq s, Nat.le_trans (len_del fs s) h.few, fun p hp => h.small p (List.mem_filter.1 hp).1⟩
theorem Good.put {fs : Fm} {m : Nat} (h : Good fs m) (s : Nm) {l : List UInt8} (hl : l.length ≤ 4194304) : Good (put fs s l) (m + 1) :=
  ⟨uniq_put h.uniq s l, Nat.le_trans (len_put fs s l) (by have := h.few; omega), fun p hp => by
    rcases List.mem_cons.1 hp with rfl | hp
    · exact hl
    · exact h.small p (List.mem_filter.1 hp).1⟩
theorem Good.doF {fs : Fm} {m : Nat} (h : Good fs m) {c : Chg} (hc : c.may fs) : Good (c.doF fs) (m + 1) := by
  cases c with
  | put f a s =>
    refine h.put f ?_
    rw [splice_len hc.2.1, bl_len]
    have := h.gl_le f
    have := hc.2.2
    omega
  | trim f n =>
    refine h.put f ?_
    have := h.gl_le f
    simp; omega
  | move f t => exact (h.del f).put t (h.gl_le f)
  | drop f =>
    have := h.del f
    exact ⟨this.1, Nat.le_succ_of_le this.2, this.3⟩
/-- what a change leaves -/
def Done (w : World) (B D M n T o : Nat) (cs : Array Value) (V : Nm → Value) (fs' : Fm) (e : Ending) (w' : World) : Prop :=
  e = .returned (.tuple #[]) ∧ ∃ V', Fls w' B M n fs' V' ∧ Blk w' D T (cs.setIfInBounds (o + 1) (.int .i64 (sz fs'))) ∧ Fr w w' (fun q => q = D ∨ Foot M V q) ∧ ∀ q, Foot M V' q → Foot M V q ∨ w.heap.size ≤ q
theorem foot_upd {M : Nat} {V : Nm → Value} {s : Nm} {v : Value} {q : Nat} (h : Foot M (upd V s v) q) : Foot M V q ∨ v.ownBlock = some q := by
  rcases h with rfl | ⟨t, e⟩
  · exact .inl (.inl rfl)
  · by_cases ht : t = s
    · subst ht; rw [upd_same] at e; exact .inr e
    · rw [upd_other V v ht] at e; exact .inl (.inr ⟨t, e⟩)
theorem ta_60_60 (w : World) (x : Value) : Sem.run Try.prog (Instr.typeAssert (.iface 60 x) 62 60 true) w = .ok (.tuple #[x, .bool true]) w := by kernel_rfl
theorem ta_84_60 (w : World) (x : Value) : Sem.run Try.prog (Instr.typeAssert (.iface 84 x) 62 60 true) w = .ok (.tuple #[.agg #[.string ⟨#[]⟩, .int .i64 0, .string ⟨#[]⟩], .bool false]) w := by kernel_rfl
theorem ta_84_84 (w : World) (x : Value) : Sem.run Try.prog (Instr.typeAssert (.iface 84 x) 62 84 true) w = .ok (.tuple #[x, .bool true]) w := by kernel_rfl
theorem ta_86_60 (w : World) (x : Value) : Sem.run Try.prog (Instr.typeAssert (.iface 86 x) 62 60 true) w = .ok (.tuple #[.agg #[.string ⟨#[]⟩, .int .i64 0, .string ⟨#[]⟩], .bool false]) w := by kernel_rfl
theorem ta_86_84 (w : World) (x : Value) : Sem.run Try.prog (Instr.typeAssert (.iface 86 x) 62 84 true) w = .ok (.tuple #[.agg #[.string ⟨#[]⟩, .int .i64 0], .bool false]) w := by kernel_rfl
theorem ta_86_86 (w : World) (x : Value) : Sem.run Try.prog (Instr.typeAssert (.iface 86 x) 62 86 true) w = .ok (.tuple #[x, .bool true]) w := by kernel_rfl
theorem ta_89_60 (w : World) (x : Value) : Sem.run Try.prog (Instr.typeAssert (.iface 89 x) 62 60 true) w = .ok (.tuple #[.agg #[.string ⟨#[]⟩, .int .i64 0, .string ⟨#[]⟩], .bool false]) w := by kernel_rfl
theorem ta_89_84 (w : World) (x : Value) : Sem.run Try.prog (Instr.typeAssert (.iface 89 x) 62 84 true) w = .ok (.tuple #[.agg #[.string ⟨#[]⟩, .int .i64 0], .bool false]) w := by kernel_rfl
theorem ta_89_86 (w : World) (x : Value) : Sem.run Try.prog (Instr.typeAssert (.iface 89 x) 62 86 true) w = .ok (.tuple #[.agg #[.string ⟨#[]⟩, .string ⟨#[]⟩], .bool false]) w := by kernel_rfl
theorem ta_89_89 (w : World) (x : Value) : Sem.run Try.prog (Instr.typeAssert (.iface 89 x) 62 89 true) w = .ok (.tuple #[x, .bool true]) w := by kernel_rfl
set_option maxHeartbeats 2000000 in
set_option maxRecDepth 100000 in
theorem do_drop {w : World} {B D M n T o m : Nat} {cs : Array Value} {fs : Fm} {V : Nm → Value} {f : Nm} (h : Fls w B M n fs V) (hB : Blk w D T cs) (h0 : cs[o]? = some (.map (some M))) (h1 : cs[o + 1]? = some (.int .i64 (sz fs))) (hF : ¬ Foot M V D)
    (hG : Good fs m) (hm : m ≤ 100000) (_hn : n < 1000000) (hf : f.size ≤ 64) :
    Calls Try.prog 31 #[.pointer (some ⟨D, o, none⟩), (Chg.drop f).val] w (Done w B D M (n + 1) T o cs V ((Chg.drop f).doF fs)) := by
  have hsz := hG.sz_le
  have hgl := hG.gl_le f
  have hgs := gl_le_sz hG.uniq f
  have e1 : (sz fs : Int) - (gl fs f).length = (sz (del fs f) : Int) := by have := sz_del hG.uniq f; omega
  have E1 := Lib.hid e1
  have hb1 := (Below.refl w.heap.size w).alloc (Nat.le_refl _) (Obj.cells #[.string f] 89)
  have CALL := Lib.hid (drop_any (h.below hb1) (hB.below hb1 hB.lt) h0 h1 hF (s := f) (by omega) (by omega) (by omega) hgl (by omega))
  have FIN : Hid (∀ w2 e, Setd (w.alloc (Obj.cells #[.string f] 89)) B D M n T o cs (del fs f) (upd V f nilS) ((sz fs : Int) - (gl fs f).length) e w2 → Done w B D M (n + 1) T o cs V (del fs f) e w2) := Lib.hid (fun w2 e hs => by
    obtain ⟨he, a1, a2, a3⟩ := hs
    rw [E1.out] at a2
    refine ⟨he, _, a1.mono (Nat.le_succ _), a2, (Fr.of_below hb1 (fun _ => False)).trans a3 (fun _ _ h => h.elim) (fun q _ hq => ?_), fun q hq => ?_⟩
    · rcases hq with rfl | rfl
      · exact .inl rfl
      · exact .inr (.inl rfl)
    · rcases foot_upd hq with h | h
      · exact .inl h
      · simp [nilS, Value.ownBlock] at h)
  clear h hB h0 h1 hF hG hsz hgl hgs e1 hb1
  have t1 := ta_89_60 w (.agg #[.string f])
  have t2 := ta_89_84 w (.agg #[.string f])
  have t3 := ta_89_86 w (.agg #[.string f])
  have t4 := ta_89_89 w (.agg #[.string f])
  unfold Chg.val Chg.doF
  go_enter Try.func31, Try.ntmps31
  go_wp2_with fail
  refine CALL.out.mono ?_
  rintro e w2 hs
  have F := Lib.hid (FIN.out _ _ hs)
  obtain ⟨rfl, _⟩ := hs
  clear FIN CALL
  go_wp2_with fail
  go_end0
  exact F.out
theorem own_take {w : World} {B m cv : Nat} {a : Option Addr} {l : List UInt8} (h : w.ownsRow B 5 1 (.slice a m cv) m (bcells l)) {n : Nat} (hn : n ≤ m) : w.ownsRow B 5 1 (.slice a n cv) n (bcells (l.take n)) ∧ (a = none → n = 0 ∧ cv = 0) ∧ n ≤ cv := by
  rcases h.2 with ⟨e, e0⟩ | ⟨g, cap, cur, e, hB, hh, h1, h2, h3, h4⟩
  · cases e
    have e1 : n = 0 := by omega
    subst e1
    exact ⟨by simpa [bcells] using World.ownsRow_nil w B 5 1, (fun _ => ⟨rfl, rfl⟩), Nat.le_refl _⟩
  · cases e
    have hl : l.length = m := by have := h.1; rw [bcells_len] at this; omega
    refine ⟨⟨by rw [bcells_len, List.length_take]; omega, .inr ⟨g, cv, cur, rfl, hB, hh, by omega, h2, h3, ?_⟩⟩, (fun e => by cases e), by omega⟩
    have : cur.toList.take (n * 1) = (cur.toList.take (m * 1)).take n := by rw [List.take_take]; congr 1; omega
    rw [this, h4]
    unfold bcells
    rw [List.map_take]
theorem own_below {w w' : World} {B : Nat} {v : Value} {n : Nat} {xs : List Value} (h : w.ownsRow B 5 1 v n xs) (hb : Below w.heap.size w w') : w'.ownsRow B 5 1 v n xs :=
  World.ownsRow.kept h (row := none) ⟨hb.os, hb.tape, hb.output, hb.size, fun q hq _ => hb.block q hq⟩ (by cases v.ownBlock <;> simp)
theorem setd_cells {w w2 : World} {B D M n T o Y : Nat} {cs ys : Array Value} {fs : Fm} {V : Nm → Value} {u : Int} {e : Ending} {t : TypeId} (h : Setd w B D M n T o cs fs V u e w2) (hY : Blk w Y t ys) (h1 : Y ≠ D) (h2 : Y ≠ M) (h0 : cs[o]? = some (.map (some M))) : Blk w2 Y t ys ∧ w2.cell? ⟨D, o, none⟩ = some (.map (some M)) := by
  obtain ⟨_, _, hB, hF⟩ := h
  refine ⟨hY.fr hF (by rintro (e | e); exact h1 e; exact h2 e), ?_⟩
  rw [hB.cell, Array.getElem?_setIfInBounds_ne (by omega)]
  exact h0
theorem ownBlock_len (a : Option Addr) (n m c : Nat) : (Value.slice a n c).ownBlock = (Value.slice a m c).ownBlock := by cases a <;> rfl
set_option maxHeartbeats 2000000 in
set_option maxRecDepth 100000 in
theorem do_trim {w : World} {B D M n T o m : Nat} {cs : Array Value} {fs : Fm} {V : Nm → Value} {f : Nm} {k : Nat} (h : Fls w B M n fs V) (hB : Blk w D T cs) (h0 : cs[o]? = some (.map (some M))) (h1 : cs[o + 1]? = some (.int .i64 (sz fs))) (hF : ¬ Foot M V D)
    (hG : Good fs m) (hm : m ≤ 100000) (hn : n < 1000000) (hf : f.size ≤ 64) (hk : k ≤ (gl fs f).length) :
    Calls Try.prog 31 #[.pointer (some ⟨D, o, none⟩), (Chg.trim f k).val] w (Done w B D M (n + 1) T o cs V ((Chg.trim f k).doF fs)) := by
  have hsz := hG.sz_le
  have hgl := hG.gl_le f
  have hgs := gl_le_sz hG.uniq f
  obtain ⟨av, cv, hV⟩ := own_form (h.own f)
  have hown := h.own f
  rw [hV] at hown
  obtain ⟨ho, hnil, hkc⟩ := own_take hown hk
  have hlt : ((gl fs f).take k).length = k := by rw [List.length_take]; omega
  have e1 : (sz fs : Int) + ((((gl fs f).take k).length : Int) - (gl fs f).length) = (sz (Ytejmoaloomnmkaa.put fs f ((gl fs f).take k)) : Int) := by have := sz_put hG.uniq f ((gl fs f).take k); omega
  have E1 := Lib.hid e1
  have b1 := (Below.refl w.heap.size w).alloc (Nat.le_refl _) (Obj.cells #[.string f, .int .i64 k] 84)
  obtain ⟨w1, hw1, hb1, Y1⟩ : ∃ w1, w1 = w.alloc (Obj.cells #[.string f, .int .i64 k] 84) ∧ Below w.heap.size w w1 ∧ Blk w1 w.heap.size 84 #[.string f, .int .i64 k] := ⟨_, rfl, b1, Blk.new _ _ _⟩
  have hbd : Below w.heap.size w w1.drew := hb1.trans ((Below.refl w1.heap.size w1).drew.mono hb1.size)
  have hfl := h.below hbd
  have LD : (Instr.lookup 48 (.map (some M)) (.string f) false).run Try.prog w1.drew = .ok (.slice av (gl fs f).length cv) w1.drew := by rw [hfl.look (by unfold maxLen; omega), hV]
  have hob : (Value.slice av ((gl fs f).take k).length cv).ownBlock = (V f).ownBlock := by rw [hV]; exact ownBlock_len _ _ _ _
  have ho' : w1.drew.ownsRow B 5 1 (.slice av ((gl fs f).take k).length cv) ((gl fs f).take k).length (bcells ((gl fs f).take k)) := by
    rw [hlt]
    exact own_below ho hbd
  have CALL := set_any hfl (hB.below hbd hB.lt) h0 h1 hF (s := f) (by omega) hn (by omega) (by omega) (by rw [hlt]; omega) hgl (by omega) ho' (fun t ht => by rw [hob]; exact h.apart f t ht.symm) (by rw [hob]; exact h.off.2 f) (by rw [hob]; exact fun e => hF (.inr ⟨f, e⟩))
  rw [E1.out] at CALL
  have FIN : Hid (∀ w2 e, Setd w1.drew B D M (n + 1) T o cs (Ytejmoaloomnmkaa.put fs f ((gl fs f).take k)) (upd V f (.slice av ((gl fs f).take k).length cv)) (sz (Ytejmoaloomnmkaa.put fs f ((gl fs f).take k))) e w2 → Done w B D M (n + 1) T o cs V (Ytejmoaloomnmkaa.put fs f ((gl fs f).take k)) e w2) := Lib.hid (fun w2 e hs => by
    obtain ⟨he, a1, a2, a3⟩ := hs
    refine ⟨he, _, a1, a2, (Fr.of_below hbd (fun _ => False)).trans a3 (fun _ _ h => h.elim) (fun q _ hq => ?_), fun q hq => ?_⟩
    · rcases hq with rfl | rfl
      · exact .inl rfl
      · exact .inr (.inl rfl)
    · rcases foot_upd hq with h | h
      · exact .inl h
      · rw [hob] at h; exact .inl (.inr ⟨f, h⟩))
  have c0 : w1.cell? ⟨D, o, none⟩ = some (.map (some M)) := by rw [(hB.below hb1 hB.lt).cell]; exact h0
  have y0 : w1.cell? ⟨w.heap.size, 0, none⟩ = some (.string f) := by rw [Y1.cell]; rfl
  have y1 : w1.cell? ⟨w.heap.size, 1, none⟩ = some (.int .i64 k) := by rw [Y1.cell]; rfl
  rw [hlt] at CALL FIN
  have hYD : w.heap.size ≠ D := fun e => by have := hB.lt; omega
  have hYM : w.heap.size ≠ M := fun e => by have := (h.lt (.inl rfl)).2; omega
  have CEL : Hid (∀ w2 e, Setd w1.drew B D M (n + 1) T o cs (Ytejmoaloomnmkaa.put fs f ((gl fs f).take k)) (upd V f (.slice av k cv)) (sz (Ytejmoaloomnmkaa.put fs f ((gl fs f).take k))) e w2 → w2.cell? ⟨w.heap.size, 0, none⟩ = some (.string f) ∧ w2.cell? ⟨w.heap.size, 1, none⟩ = some (.int .i64 k) ∧ w2.cell? ⟨D, o, none⟩ = some (.map (some M))) := Lib.hid (fun w2 e hs => by
    obtain ⟨a1, a2⟩ := setd_cells hs (Y1 : Blk w1.drew _ _ _) hYD hYM h0
    exact ⟨by rw [a1.cell]; rfl, by rw [a1.cell]; rfl, a2⟩)
  have CALLh := Lib.hid CALL
  have W1 := Lib.hid hw1
  have t1 := ta_84_60 w (.agg #[.string f, .int .i64 k])
  have t2 := ta_84_84 w (.agg #[.string f, .int .i64 k])
  clear h hB h0 h1 hF hG hsz hgs e1 hb1 Y1 hbd hfl hob ho' CALL hw1 hown ho hV b1 hYD hYM
  unfold Chg.val Chg.doF
  simp only
  generalize Ytejmoaloomnmkaa.put fs f ((gl fs f).take k) = fs' at *
  generalize (gl fs f).length = g at *
  go_enter Try.func31, Try.ntmps31
  go_wp2_with fail
  rw [← W1.out]
  clear W1 t1 t2
  go_region_held3 (fun w' => w'.cell? ⟨w.heap.size, 0, none⟩ = some (.string f) ∧ w'.cell? ⟨w.heap.size, 1, none⟩ = some (.int .i64 k) ∧ w'.cell? ⟨D, o, none⟩ = some (.map (some M)))
    (first | assumption | exact ⟨‹_›, ‹_›, ‹_›⟩)
    (first | (go_at_call 46; refine CALLh.out.mono ?_; rintro e w2 hs; have F := Lib.hid (FIN.out _ _ hs); obtain ⟨d0, d1, d2⟩ := CEL.out _ _ hs; obtain ⟨rfl, _⟩ := hs))
  clear FIN CEL CALLh c0 y0 y1 d0 d1 d2
  go_wp2_with fail
  go_end0
  exact F.out
end Go.Proofs.Ytejmoaloomnmkaa
