/-
  WHAT THE ROWS REST ON, part 22: Whs Brt Brw.
-/
import Derived.Lib.QuietBelow
import Derived.Test.YtggjpallbapcmaaPart21
/-
  A READER AND THREE NODES' BOOKS: what a reader got, plainly; what lies in memory.
-/
namespace Go.Proofs.Ytggjpallbapcmaa
open Go.RowKit
def Seqd : Int → List (Int × List Int) → Prop
  | _, [] => True
  | a, x :: l => a ≤ x.1 ∧ x.2 = [x.1] ∧ Seqd (x.1 + 1) l
def lst : Int → List (Int × List Int) → Int
  | a, [] => a
  | _, x :: l => lst (x.1 + 1) l
theorem seqd_mono : ∀ {a b : Int} {l : List (Int × List Int)}, b ≤ a → Seqd a l → Seqd b l
  | _, _, [], _, _ => trivial
  | _, _, _ :: _, h, ⟨h1, h2, h3⟩ => ⟨Int.le_trans h h1, h2, h3⟩
theorem lst_app : ∀ (a : Int) (l r : List (Int × List Int)), lst a (l ++ r) = lst (lst a l) r
  | _, [], _ => rfl
  | _, x :: l, r => lst_app (x.1 + 1) l r
theorem seqd_app : ∀ {a : Int} {l r : List (Int × List Int)}, Seqd a l → Seqd (lst a l) r → Seqd a (l ++ r)
  | _, [], _, _, h => h
  | _, _ :: _, _, ⟨h1, h2, h3⟩, h => ⟨h1, h2, seqd_app h3 h⟩
theorem seqd_len : ∀ {a : Int} {l : List (Int × List Int)}, Seqd a l → a + l.length ≤ lst a l
  | a, [], _ => by show a + ((0 : Nat) : Int) ≤ a; omega
  | a, x :: l, ⟨h1, _, h3⟩ => by
    have := seqd_len h3
    show a + ((l.length + 1 : Nat) : Int) ≤ lst (x.1 + 1) l
    omega
theorem lst_nil {l : List (Int × List Int)} (a b : Int) (h : l ≠ []) : lst a l = lst b l := by
  cases l with
  | nil => exact absurd rfl h
  | cons x l => rfl
theorem lst_base : ∀ {a b : Int} {l : List (Int × List Int)}, a ≤ b → Seqd b l → lst a l ≤ lst b l
  | _, _, [], h, _ => h
  | _, _, _ :: _, _, _ => Int.le_refl _
theorem seqd_at : ∀ {a : Int} {l : List (Int × List Int)}, Seqd a l → ∀ k (h : k < l.length), lst a (l.take k) ≤ l[k].1 ∧ l[k].2 = [l[k].1] ∧ lst a (l.take (k + 1)) = l[k].1 + 1
  | _, _ :: _, ⟨h1, h2, _⟩, 0, _ => ⟨h1, h2, rfl⟩
  | _, x :: l, ⟨_, _, h3⟩, k + 1, h => seqd_at h3 k (by simpa using h)
theorem seqd_take : ∀ {a : Int} {l : List (Int × List Int)}, Seqd a l → ∀ k, Seqd a (l.take k)
  | _, [], _, _ => by simp [Seqd]
  | _, _ :: _, _, 0 => trivial
  | _, _ :: _, ⟨h1, h2, h3⟩, k + 1 => ⟨h1, h2, seqd_take h3 k⟩
theorem seqd_drop : ∀ {a : Int} {l : List (Int × List Int)}, Seqd a l → ∀ k, Seqd (lst a (l.take k)) (l.drop k)
  | _, [], _, _ => by simp [Seqd]
  | _, _ :: _, h, 0 => h
  | _, _ :: _, ⟨_, _, h3⟩, k + 1 => seqd_drop h3 k
theorem take_ge {l : List (Int × List Int)} (h : Seqd 0 l) (k : Nat) (hk : k ≤ l.length) : (k : Int) ≤ lst 0 (l.take k) := by
  have := seqd_len (seqd_take h k)
  rw [List.length_take] at this
  omega
theorem take_le {l : List (Int × List Int)} (h : Seqd 0 l) (k : Nat) : lst 0 (l.take k) ≤ lst 0 l := by
  have h1 := lst_app 0 (l.take k) (l.drop k)
  rw [List.take_append_drop] at h1
  rw [h1]
  have := seqd_len (seqd_drop h k)
  omega
theorem seqd_one : ∀ {a : Int} {l : List (Int × List Int)}, Seqd a l → ∀ x ∈ l, x.2.length ≤ 17592186043904
  | _, y :: _, ⟨_, h2, h3⟩, x, hx => by
    rcases List.mem_cons.1 hx with rfl | hx
    · rw [h2]; simp
    · exact seqd_one h3 x hx
theorem rowI_succ (c : Int) (m : Nat) : Bk.rowI c (m + 1) = [c] :: Bk.rowI (c + 1) m := by
  apply List.ext_getElem
  · simp [Bk.rowI]
  · intro i h1 h2
    rw [Bk.rowI_get]
    cases i with
    | zero => simp
    | succ i => rw [List.getElem_cons_succ, Bk.rowI_get]; congr 1; omega
theorem numb_row : ∀ (m : Nat) (c : Int), Seqd c (numb c (Bk.rowI c m)) ∧ lst c (numb c (Bk.rowI c m)) = c + m
  | 0, c => ⟨trivial, by show c = c + ((0 : Nat) : Int); omega⟩
  | m + 1, c => by
    rw [rowI_succ]
    obtain ⟨h1, h2⟩ := numb_row m (c + 1)
    exact ⟨⟨Int.le_refl _, rfl, h1⟩, by show lst (c + 1) (numb (c + 1) (Bk.rowI (c + 1) m)) = _; rw [h2]; omega⟩
theorem sub_row {base at_ most : Int} {n : Nat} (h : base ≤ at_) : ∃ k : Nat, Bk.sub base (Bk.rowI base n) at_ most = Bk.rowI at_ k ∧ (at_ ≤ base + n → at_ + k ≤ base + n) ∧ (base + n < at_ → k = 0) := by
  refine ⟨min most.toNat (n - (at_ - base).toNat), ?_, ?_, ?_⟩
  · unfold Bk.sub
    rw [Bk.rowI_drop, Bk.rowI_take, show base + (((at_ - base).toNat : Nat) : Int) = at_ by omega]
  · intro h1; omega
  · intro h1; omega
/-- what a reader of three nodes knows, where so many matches came -/
structure RI (s : RS) (tot : Nat) : Prop where
  tt : 0 ≤ s.to ∧ s.to ≤ 2
  gone : 0 ≤ s.gone
  at_ : s.at_ = s.LG.length + s.gone
  le : s.at_ ≤ tot
  sq : Seqd 0 s.LG
  ls : lst 0 s.LG ≤ s.at_
theorem RI.ok {s : RS} {tot : Nat} (h : RI s tot) (ht : tot ≤ 400) : s.Ok 400 := by
  have h1 := h.tt
  have h2 := h.gone
  have h3 := h.at_
  have h4 := h.le
  exact ⟨by omega, by omega, by omega, by omega, seqd_one h.sq⟩
theorem RI.more {s : RS} {tot : Nat} (h : RI s tot) : RI s (tot + 1) := ⟨h.tt, h.gone, h.at_, by have := h.le; omega, h.sq, h.ls⟩
theorem RI.late {s : RS} {tot : Nat} (h : RI s tot) : RI ⟨nextN s.to 3, s.at_, s.gone, s.LG⟩ tot := by
  have := h.tt
  exact ⟨by show 0 ≤ nextN s.to 3 ∧ nextN s.to 3 ≤ 2; unfold nextN; split <;> omega, h.gone, h.at_, h.le, h.sq, h.ls⟩
theorem RI.read {s : RS} {tot : Nat} (h : RI s tot) {base most : Int} {n : Nat} (hb : base ≤ s.at_) (hn : base + n ≤ tot) :
    RI (s.told 3 (Bk.sub base (Bk.rowI base n) s.at_ most) (s.at_ + (Bk.sub base (Bk.rowI base n) s.at_ most).length) 0) tot := by
  obtain ⟨k, hk, k1, k2⟩ := sub_row (most := most) (n := n) hb
  have h1 := h.le
  have h2 := h.at_
  rw [hk, Bk.rowI_len]
  unfold RS.told
  rw [if_pos ⟨rfl, by omega, by rw [Bk.rowI_len]; omega⟩]
  obtain ⟨q1, q2⟩ := numb_row k s.at_
  refine ⟨h.tt, h.gone, ?_, ?_, seqd_app h.sq (seqd_mono h.ls q1), ?_⟩
  · show s.at_ + (k : Int) = ((s.LG ++ numb s.at_ (Bk.rowI s.at_ k)).length : Int) + s.gone
    rw [List.length_append, numb_len, Bk.rowI_len]
    omega
  · show s.at_ + (k : Int) ≤ tot
    by_cases hc : s.at_ ≤ base + n
    · have := k1 hc; omega
    · have := k2 (by omega); omega
  · show lst 0 (s.LG ++ numb s.at_ (Bk.rowI s.at_ k)) ≤ s.at_ + k
    rw [lst_app, ← q2]
    exact lst_base h.ls q1
theorem RI.skip {s : RS} {tot : Nat} (h : RI s tot) {base : Int} (hb : s.at_ < base) (hn : base ≤ tot) : RI (s.told 3 [] base 180) tot := by
  have h2 := h.at_
  have h3 := h.gone
  have h4 := h.ls
  unfold RS.told
  rw [if_neg (by omega), if_pos ⟨rfl, hb⟩]
  exact ⟨h.tt, by show 0 ≤ s.gone + (base - s.at_); omega, by show base = (s.LG.length : Int) + (s.gone + (base - s.at_)); omega, hn, h.sq, by show lst 0 s.LG ≤ base; omega⟩
/-- a node's text -/
def NodeOk (tot : Nat) (S : ByteArray) : Prop := ∃ b k, S = Bk.txtS b (Bk.rowI b k) ∧ 0 ≤ b ∧ b + (k : Int) ≤ tot ∧ k ≤ 64
theorem NodeOk.more {tot : Nat} {S : ByteArray} (h : NodeOk tot S) : NodeOk (tot + 1) S := by
  obtain ⟨b, k, e, h1, h2, h3⟩ := h
  exact ⟨b, k, e, h1, by omega, h3⟩
structure WS (s : RS) (tot : Nat) (base : Int) (n : Nat) (S0 S1 S2 : ByteArray) : Prop where
  ri : RI s tot
  b0 : 0 ≤ base
  bn : base + n = tot
  n : n ≤ 64
  s0 : NodeOk tot S0
  s1 : NodeOk tot S1
  s2 : NodeOk tot S2
theorem row_ok {base : Int} {n : Nat} (h0 : 0 ≤ base) (hn : n ≤ 64) (hm : base + (n : Int) ≤ 1000) : Bk.BOk base (Bk.rowI base n) ∧ Bk.Shr (Bk.rowI base n) := by
  refine ⟨⟨h0, by rw [Bk.rowI_len]; omega, by rw [Bk.rowI_len]; exact hn⟩, fun xs hx => ?_⟩
  obtain ⟨i, hi, rfl⟩ := List.getElem_of_mem hx
  rw [Bk.rowI_get]
  rw [Bk.rowI_len] at hi
  exact Bk.may_one (by omega) (by omega)
theorem row_load {base : Int} {n : Nat} (h0 : 0 ≤ base) (hn : n ≤ 64) (hm : base + (n : Int) ≤ 1000) : Bk.pLoad (Bk.txtS base (Bk.rowI base n)) = some (base, Bk.rowI base n) :=
  Bk.pLoad_put (row_ok h0 hn hm).1 (row_ok h0 hn hm).2
theorem row_size {base : Int} {n : Nat} (hn : n ≤ 64) : (Bk.txtS base (Bk.rowI base n)).size ≤ 100000 := by
  unfold Bk.txtS
  rw [Bk.ba_size, Bk.ba_size]
  have h1 := Bt.numS_size base
  have h2 := Bt.numS_size ((Bk.rowI base n).length : Int)
  have h3 := Bk.bodS_size (L := Bk.rowI base n) (fun x hx => by
    obtain ⟨i, hi, rfl⟩ := List.getElem_of_mem hx
    rw [Bk.rowI_get]; simp)
  rw [Bk.rowI_len] at h3
  omega
/-- a book is loaded from a text -/
theorem load_row {base : Int} {n : Nat} (h0 : 0 ≤ base) (hn : n ≤ 64) (hm : base + (n : Int) ≤ 1000) (w : World) : Calls Try.prog 30 #[.string (Bk.txtS base (Bk.rowI base n))] w fun e w' => ∃ t, e = .returned (.tuple #[.pointer (some ⟨t, 0, none⟩), .int .i64 0]) ∧ Bk.Mine w w.heap.size t base (Bk.rowI base n) w' := by
  refine (Bk.load_any (by have := row_size (base := base) hn; omega) w).mono ?_
  rintro e w' (⟨h1, _, _⟩ | ⟨b, LL, t, h1, h2, h3⟩)
  · rw [row_load h0 hn hm] at h1; cases h1
  · rw [row_load h0 hn hm] at h1
    cases h1
    exact ⟨t, h2, h3⟩
structure WhA (W0 w : World) (U : Nat → Prop) (t nb : Nat) (s : RS) (most : Int) (S0 S1 S2 : ByteArray) (av : Value) (cs : List Value) (tot : Nat) : Prop where
  rd : RdM w U t 3 s.to ⟨#[112]⟩ most s.at_ s.gone s.LG
  nd : Blk w nb 79 #[.string S0, .string S1, .string S2]
  al : w.ownsRow W0.heap.size 9 1 av tot cs
  un : ¬ U nb
  ua : ∀ q, av.ownBlock = some q → ¬ U q ∧ q ≠ nb
  ul : ∀ q, U q → W0.heap.size ≤ q ∧ q < w.heap.size
  nl : W0.heap.size ≤ nb
  b : Below W0.heap.size W0 w
section
variable {W0 w w' : World} {U : Nat → Prop} {t nb : Nat} {s s' : RS} {most : Int} {S0 S1 S2 : ByteArray} {av : Value} {cs : List Value} {tot : Nat}
theorem WhA.next (h : WhA W0 w U t nb s most S0 S1 S2 av cs tot) (b : Below w.heap.size w w') : WhA W0 w' U t nb s most S0 S1 S2 av cs tot :=
  ⟨h.rd.next b, h.nd.below b, Fr.own h.al (Fr.of_below b (fun _ => False)) (fun _ _ h => h), h.un, h.ua, fun q hq => ⟨(h.ul q hq).1, Nat.lt_of_lt_of_le (h.ul q hq).2 b.size⟩, h.nl, h.b.trans (b.mono h.b.size)⟩
/-- a node hears of all -/
theorem WhA.node (h : WhA W0 w U t nb s most S0 S1 S2 av cs tot) (i : Nat) (S : ByteArray) {T0 T1 T2 : ByteArray} (e : (#[Value.string S0, .string S1, .string S2]).setIfInBounds i (.string S) = #[.string T0, .string T1, .string T2]) : WhA W0 (w.setCell ⟨nb, i, none⟩ (.string S)) U t nb s most T0 T1 T2 av cs tot := by
  have f : Fr w (w.setCell ⟨nb, i, none⟩ (.string S)) (fun q => q = nb) := fr_set w nb i _
  refine ⟨h.rd.fr f (fun q hq => hq ▸ h.un), e ▸ h.nd.set i _, Fr.own h.al f (fun q hq e => (h.ua q hq).2 e), h.un, h.ua, fun q hq => ⟨(h.ul q hq).1, Nat.lt_of_lt_of_le (h.ul q hq).2 f.size⟩, h.nl, h.b.trans (f.below (fun q hq => hq ▸ h.nl) h.b.size)⟩
/-- one more match came -/
theorem WhA.app {w4 : World} {g cap : Nat} {cs' : List Value} (o : Obj) (h : WhA W0 w U t nb s most S0 S1 S2 av cs tot) (ho : w4.ownsRow W0.heap.size 9 1 (.slice (some ⟨g, 0, none⟩) (tot + 1) cap) (tot + 1) cs') (hg : (w.alloc o).grownBy w4 av.ownBlock) (hat : av.ownBlock = some g ∨ g = (w.alloc o).heap.size) :
    WhA W0 w4 U t nb s most S0 S1 S2 (.slice (some ⟨g, 0, none⟩) (tot + 1) cap) cs' (tot + 1) := by
  have f : Fr w w4 (fun q => av.ownBlock = some q) := ((Fr.refl w (fun q => av.ownBlock = some q)).al o).on ((Fr.of_grown hg).mono (fun q _ h => h.symm))
  have hs : (w.alloc o).heap.size = w.heap.size + 1 := by simp
  have lo : ∀ q, av.ownBlock = some q → W0.heap.size ≤ q := fun q hq => (World.ownsRow.lt h.al q hq).1
  have hnl := h.nd.lt
  refine ⟨h.rd.fr f (fun q hq => (h.ua q hq).1), h.nd.fr f (fun hq => (h.ua _ hq).2 rfl), ho, h.un, fun q hq => ?_, fun q hq => ⟨(h.ul q hq).1, Nat.lt_of_lt_of_le (h.ul q hq).2 f.size⟩, h.nl, h.b.trans (f.below lo h.b.size)⟩
  have hgq : g = q := by simpa [Value.ownBlock] using hq
  subst hgq
  rcases hat with e | e
  · exact h.ua g e
  · exact ⟨fun hu => by have := (h.ul g hu).2; omega, by omega⟩
/-- the reader changes -/
theorem WhA.reader (h : WhA W0 w U t nb s most S0 S1 S2 av cs tot) (k : Rch w U t 3 s'.to ⟨#[112]⟩ most s'.at_ s'.gone s'.LG w') : (∃ U', WhA W0 w' U' t nb s' most S0 S1 S2 av cs tot) ∧ Fr w w' U := by
  obtain ⟨U', k, f, u⟩ := k
  have hnl := h.nd.lt
  refine ⟨⟨U', k, h.nd.fr f h.un, Fr.own h.al f (fun q hq => (h.ua q hq).1), fun hu => ?_, fun q hq => ⟨fun hu => ?_, (h.ua q hq).2⟩, fun q hq => ?_, h.nl, h.b.trans (f.below (fun q hq => (h.ul q hq).1) h.b.size)⟩, f⟩
  · rcases u nb hu with h1 | h1
    · exact h.un h1
    · omega
  · have := (World.ownsRow.lt h.al q hq).2
    rcases u q hu with h1 | h1
    · exact (h.ua q hq).1 h1
    · omega
  · have hlt : q < w'.heap.size := by
      obtain ⟨gv, cs, k⟩ := k
      exact k.ul q hq
    rcases u q hq with h1 | h1
    · exact ⟨(h.ul q h1).1, hlt⟩
    · exact ⟨by have := h.b.size; omega, hlt⟩
/-- a book off the reader stays -/
theorem book_off {B : Nat} {w0 : World} {tb : Nat} {base : Int} {LL : List (List Int)} {P : Nat → Prop} (h : Bk.Mine w0 B tb base LL w) (f : Fr w w' P) (hP : ∀ q, P q → q < B) : ∃ K, Bk.BookAt w' K tb base LL ∧ Bk.BOk base LL ∧ Bk.Shr LL := by
  obtain ⟨K, hb, ok, sh, hB, _, _⟩ := h
  exact ⟨K, hb.fr ⟨f.os, f.tape, f.output, f.size, f.block⟩ (fun q hq hp => by have := hB q hq; have := hP q hp; omega), ok, sh⟩
/-- a node that is asked -/
theorem node_cell {n0 : Nat} {i : Nat} (hi : i < 3) (h0 : NodeOk n0 S0) (h1 : NodeOk n0 S1) (h2 : NodeOk n0 S2) : ∃ S, NodeOk n0 S ∧ (#[Value.string S0, .string S1, .string S2])[i]? = some (.string S) := by
  match i, hi with
  | 0, _ => exact ⟨S0, h0, rfl⟩
  | 1, _ => exact ⟨S1, h1, rfl⟩
  | 2, _ => exact ⟨S2, h2, rfl⟩
theorem WhA.hear (h : WhA W0 w U t nb s most S0 S1 S2 av cs tot) {n0 : Nat} {i : Nat} (hi : i < 3) {S : ByteArray} (hS : NodeOk n0 S) (h0 : NodeOk n0 S0) (h1 : NodeOk n0 S1) (h2 : NodeOk n0 S2) :
    ∃ T0 T1 T2, NodeOk n0 T0 ∧ NodeOk n0 T1 ∧ NodeOk n0 T2 ∧ WhA W0 (w.setCell ⟨nb, i, none⟩ (.string S)) U t nb s most T0 T1 T2 av cs tot := by
  match i, hi with
  | 0, _ => exact ⟨S, S1, S2, hS, h1, h2, h.node 0 S rfl⟩
  | 1, _ => exact ⟨S0, S, S2, h0, hS, h2, h.node 1 S rfl⟩
  | 2, _ => exact ⟨S0, S1, S, h0, h1, hS, h.node 2 S rfl⟩
/-- the book behind Put, Forget -/
theorem row_put {base : Int} {k : Nat} (h0 : 0 ≤ base) (hk : k ≤ 64) (hm : base + (k : Int) ≤ 1000) : ∃ b' k', Bk.ptS base (Bk.rowI base k) [base + (k : Int)] = (b', Bk.rowI b' k') ∧ 0 ≤ b' ∧ b' + (k' : Int) = base + k + 1 ∧ k' ≤ 64 := by
  have := (Bk.pt_row h0 hk (by omega)).2
  by_cases h64 : k = 64
  · rw [if_pos h64] at this
    exact ⟨base + 1, 64, this, by omega, by omega, by decide⟩
  · rw [if_neg h64] at this
    exact ⟨base, k + 1, this, h0, by omega, by omega⟩
theorem row_forget {base : Int} {k : Nat} (h0 : 0 ≤ base) (hk : k ≤ 64) (x : Int) : ∃ b' k', Bk.fgS base (Bk.rowI base k) x = (b', Bk.rowI b' k') ∧ 0 ≤ b' ∧ b' + (k' : Int) = base + k ∧ k' ≤ 64 := by
  unfold Bk.fgS
  rw [Bk.rowI_len]
  by_cases h : x < 0 ∨ base + (k : Int) < x ∨ x ≤ base
  · rw [if_pos h]; exact ⟨base, k, rfl, h0, rfl, hk⟩
  · rw [if_neg h, Bk.rowI_drop]
    refine ⟨x, k - (x - base).toNat, ?_, by omega, by omega, by omega⟩
    rw [show base + (((x - base).toNat : Nat) : Int) = x by omega]
theorem nums_at (w : World) (m : Nat) (base : Int) (k : Nat) (h : base + (k : Int) = m) : Bk.Nums (w.alloc (.cells #[.int .i64 (m : Int)] 3)) (some ⟨w.heap.size, 0, none⟩) [base + (k : Int)] := by
  rw [h]; exact Bk.nums_one w m
end
end Go.Proofs.Ytggjpallbapcmaa
/-
  The book: the document's Text 24.
-/
namespace Go.Proofs.Ytggjpallbapcmaa.Bk
open Go.RowKit
end Go.Proofs.Ytggjpallbapcmaa.Bk
/-
  The book: Rows 15, the document's Same 14 and Read 12.
-/
namespace Go.Proofs.Ytggjpallbapcmaa.Bk
open Go.RowKit
/-- rows' cells, their numbers in the blocks D -/
def Cels (w : World) (D : Nat → Prop) (cs : List Value) (LL : List (List Int)) : Prop := cs.length = LL.length ∧ ∀ (i : Nat) (h : i < cs.length) (h2 : i < LL.length), ∃ q c, cs[i] = .slice q LL[i].length c ∧ Nums w q LL[i] ∧ ∀ p, q = some p → D p.block
section
variable {w w' : World} {D : Nat → Prop} {cs : List Value} {LL : List (List Int)}
theorem Cels.nil (w : World) (D : Nat → Prop) : Cels w D [] [] := ⟨rfl, fun i h => by simp at h⟩
theorem Cels.next (h : Cels w D cs LL) (hb : Below w.heap.size w w') : Cels w' D cs LL := ⟨h.1, fun i a b => by
  obtain ⟨q, c, e, nn, hd⟩ := h.2 i a b
  exact ⟨q, c, e, nn.next hb, hd⟩⟩
theorem Cels.snoc {q : Option Addr} {c : Nat} {xs : List Int} (h : Cels w D cs LL) (hn : Nums w q xs) (hd : ∀ p, q = some p → D p.block) : Cels w D (cs ++ [.slice q xs.length c]) (LL ++ [xs]) := ⟨by simp [h.1], fun i a b => by
  have := h.1
  rcases Nat.lt_or_ge i cs.length with hi | hi
  · rw [List.getElem_append_left hi, List.getElem_append_left (by omega)]
    exact h.2 i hi (by omega)
  · simp only [List.length_append, List.length_cons, List.length_nil] at a b
    obtain rfl : i = cs.length := by omega
    rw [List.getElem_append_right (Nat.le_refl _), List.getElem_append_right (by omega)]
    simp only [this, Nat.sub_self, List.getElem_cons_zero]
    exact ⟨q, c, rfl, hn, hd⟩⟩
theorem Cels.rws {B : Nat} {a : Option Addr} {n c : Nat} (h : Cels w D cs LL) (ho : w.ownsRow B 55 1 (.slice a n c) cs.length cs) : Rws w a LL := by
  intro i hi
  have hl := h.1
  obtain ⟨q, cq, e, nn, -⟩ := h.2 i (by omega) hi
  have h0 := ho
  rcases ho.2 with ⟨_, e3⟩ | ⟨g, cap, cur, e3, hb, hg, _⟩
  · omega
  · obtain ⟨rfl, rfl, rfl⟩ : a = some ⟨g, 0, none⟩ ∧ n = cs.length ∧ c = cap := by
      simp only [Value.slice.injEq] at e3; exact e3
    refine ⟨g, 0, q, cq, rfl, (Array.getElem?_eq_some_iff.1 hg).1, ?_, nn⟩
    rw [Nat.zero_add, h0.cellAt _ (by omega), List.getElem?_eq_getElem (by omega), e]
end
theorem OwnM.rws {w : World} {B : Nat} {a : Option Addr} {n c : Nat} {ms : List Mv} (h : OwnM w B (.slice a n c) ms) {LL : List (List Int)} (e : ms.map (fun x : Mv => x.2) = LL) : Rws w a LL := by
  intro i hi
  have hl : ms.length = LL.length := by rw [← e, List.length_map]
  have hi2 : i < ms.length := by omega
  have e2 : ms[i].2 = LL[i] := by
    have : (ms.map (fun x : Mv => x.2))[i]? = LL[i]? := by rw [e]
    rw [List.getElem?_map, List.getElem?_eq_getElem hi2, List.getElem?_eq_getElem hi] at this
    exact Option.some.inj this
  obtain ⟨q, cq, eq, nn⟩ := (h.2 ms[i] (List.getElem_mem hi2)).nums
  have h0 := h.1
  rcases h.1.2 with ⟨_, e3⟩ | ⟨g, cap, cur, e3, hb, hg, _⟩
  · omega
  · obtain ⟨rfl, rfl, rfl⟩ : a = some ⟨g, 0, none⟩ ∧ n = ms.length ∧ c = cap := by
      simp only [Value.slice.injEq] at e3; exact e3
    refine ⟨g, 0, q, cq, rfl, (Array.getElem?_eq_some_iff.1 hg).1, ?_, by rw [← e2]; exact nn⟩
    rw [Nat.zero_add, h0.cellAt _ (by omega), List.getElem?_map, List.getElem?_eq_getElem hi2, ← e2, ← eq]
    rfl
theorem news29 {W : World} {u : Value} : ∀ j x, ([u] : List Value)[j]? = some x → (W.alloc (.cells #[u] 55)).cell? ((⟨W.heap.size, 0, none⟩ : Addr).add j) = some x := by
  intro j x hj
  match j, hj with
  | 0, hj => rw [addr_add, (Blk.new W 55 #[u]).cell]; exact hj
theorem info29 : (Try.prog.info? 55).map (fun i => (i.zero, i.size, i.bytes)) = some (some (.slice none 0 0), 1, 24) := by kernel_rfl
/-- the world behind an append to a row that is owned -/
theorem app_below {w wr w3 : World} {u v : Value} {cs : List Value} {n : Nat} (hb : Below w.heap.size w wr) (ho : wr.ownsRow w.heap.size 55 1 v n cs) (hg : (wr.alloc (.cells #[u] 55)).grownBy w3 v.ownBlock) : Below w.heap.size w w3 ∧ Fr wr w3 (fun q => w.heap.size ≤ q) ∧ Fr wr w3 (fun q => v.ownBlock = some q) := by
  have bA : Below wr.heap.size wr (wr.alloc (.cells #[u] 55)) := (Below.refl _ _).alloc (Nat.le_refl _) _
  have f3 : Fr wr w3 (fun q => v.ownBlock = some q) := (Fr.of_below bA _).on ((Fr.of_grown hg).mono (fun q _ e => e.symm))
  have f4 : Fr wr w3 (fun q => w.heap.size ≤ q) := f3.mono (fun q _ e => (own_ty ho q e).1)
  exact ⟨hb.trans (f4.below (fun q h => h) hb.size), f4, f3⟩
theorem Nums.fr {w w' : World} {a : Option Addr} {xs : List Int} {P : Nat → Prop} (h : Nums w a xs) (f : Fr w w' P) (hP : ∀ p, a = some p → ¬ P p.block) : Nums w' a xs := fun i hi => by
  obtain ⟨g, o, e, hg, c⟩ := h i hi
  exact ⟨g, o, e, Nat.lt_of_lt_of_le hg f.size, by rw [World.cell?_of_block (f.block g hg (hP _ e))]; exact c⟩
theorem Cels.fr {w w' : World} {D P : Nat → Prop} {cs : List Value} {LL : List (List Int)} (h : Cels w D cs LL) (f : Fr w w' P) (hP : ∀ q, D q → ¬ P q) : Cels w' D cs LL := ⟨h.1, fun i a b => by
  obtain ⟨q, c, e, nn, hd⟩ := h.2 i a b
  exact ⟨q, c, e, nn.fr f (fun p hp => hP _ (hd p hp)), hd⟩⟩
/-- what Rows leaves -/
def Rwd (w : World) (LL : List (List Int)) (e : Ending) (w' : World) : Prop := ∃ a' c', e = .returned (.slice a' LL.length c') ∧ Rws w' a' LL ∧ Below w.heap.size w w'
set_option maxHeartbeats 8000000 in
set_option maxRecDepth 100000 in
theorem rows_any {w : World} {a : Option Addr} {LL : List (List Int)} (c : Nat) (h : Rws w a LL) (hl : LL.length ≤ 1000) :
    Calls Try.prog 20 #[.slice a LL.length c] w (Rwd w LL) := by
  have RW := Lib.hid h
  obtain ⟨i29, hi, hz0, hz1, hz2⟩ := info_parts info29
  have C0 := Lib.hid (Cels.nil w (fun q => q < w.heap.size))
  have B0 := Lib.hid (Below.refl w.heap.size w)
  have hlI : (LL.length : Int) ≤ 1000 := by omega
  have HF : Hid (∀ i (hi : i < LL.length), ∃ g o q cq, a = some ⟨g, o, none⟩ ∧ (∀ wr, Below w.heap.size w wr → wr.cell? ⟨g, o + i, none⟩ = some (.slice q LL[i].length cq)) ∧ (∀ wr, Below w.heap.size w wr → Nums wr q LL[i]) ∧ (1 ≤ LL[i].length → ∀ p, q = some p → p.block < w.heap.size)) := Lib.hid fun i hi => by
    obtain ⟨g, o, q, cq, e, hg, ck, nn⟩ := h i hi
    refine ⟨g, o, q, cq, e, fun wr b => (b.cell (p := ⟨g, _, none⟩) hg).trans ck, fun wr b => nn.next b, fun h1 p hp => ?_⟩
    obtain ⟨g2, o2, e2, hg2, -⟩ := nn 0 (by omega)
    rw [e2] at hp; cases hp; exact hg2
  clear h
  go_enter Try.func20, Try.ntmps20
  go_wp2_with fail
  go_loopw [3, 4] (fun v i wr => ∃ (j : Nat) (cs : List Value), i = .int .i64 j ∧ j ≤ LL.length ∧ Hid (cs.length = j) ∧ Hid (wr.ownsRow w.heap.size 55 1 v j cs) ∧ Hid (∀ k (hk : k < j) (hk2 : k < LL.length), ∃ q cq, cs[k]? = some (.slice q LL[k].length cq) ∧ ∀ w2, Below w.heap.size w w2 → Nums w2 q LL[k]) ∧ Hid (Below w.heap.size w wr)) (fun _ i _ => LL.length - (intOf i).toNat)
  case atStart => exact ⟨0, [], rfl, Nat.zero_le _, Lib.hid rfl, Lib.hid (World.ownsRow_nil _ _ _ _), Lib.hid (fun k hk => by omega), B0⟩
  case round =>
    obtain ⟨j, cs, rfl, hj, hcl, hO, hC, hB⟩ := hrel
    clear B0 C0
    obtain ⟨va, vc, rfl⟩ := own_form hO.out
    by_cases hjn : j < LL.length
    · have jI : (j : Int) < (LL.length : Int) := by omega
      have jB := decide_eq_true jI
      obtain ⟨g, o, q, cq, rfl, CK, NN, -⟩ := HF.out j hjn
      have ck := CK wr hB.out
      have NNh := Lib.hid NN
      have hWr := hB.out.size
      have C2 : Hid (∀ k (hk : k < j + 1) (hk2 : k < LL.length), ∃ q' cq', (cs ++ [.slice q LL[j].length cq])[k]? = some (.slice q' LL[k].length cq') ∧ ∀ w2, Below w.heap.size w w2 → Nums w2 q' LL[k]) := Lib.hid fun k hk hk2 => by
        rcases Nat.lt_or_ge k j with h1 | h1
        · obtain ⟨q', cq', e, nn⟩ := hC.out k h1 hk2
          have h3 : k < cs.length := by have := hcl.out; omega
          exact ⟨q', cq', by rw [List.getElem?_append_left h3]; exact e, nn⟩
        · obtain rfl : k = j := by omega
          have h3 := hcl.out
          exact ⟨q, cq, by rw [List.getElem?_append_right (by omega), h3, Nat.sub_self]; rfl, NNh.out⟩
      have HL2 : Hid ((cs ++ [Value.slice q LL[j].length cq]).length = j + 1) := Lib.hid (by simp [hcl.out])
      clear CK NN NNh hC HF
      generalize LL[j].length = m at *
      go_wp2_with (at_builtin; refine wpList_append_own _ rfl _ _ 56 rfl w.heap.size 55 i29 (.slice none 0 0) 1 24 Try.underlying56 hi hz0 hz1 hz2 rfl (by decide) (.slice va j vc) j cs rfl (hO.out.alloc _) ⟨wr.heap.size, 0, none⟩ 1 1 [.slice q m cq] rfl rfl news29 (by simp [Value.oneCell']) (by unfold maxLen; omega) (by omega) (by simp; omega) ?_; intro v' w3 hown hgrow _; obtain ⟨g', cap', rfl⟩ := ownsRow_succ hown; have B3 := Lib.hid (app_below hB.out hO.out hgrow).1; have O3 := Lib.hid hown; clear hown hgrow)
      clear ck hO hB
      go_roundw
      case rel => exact ⟨j + 1, _, by go_num, by omega, HL2, O3, C2, B3⟩
      case measure => simp [intOf]; omega
    · obtain rfl : j = LL.length := by omega
      have jI : ¬ (LL.length : Int) < (LL.length : Int) := by omega
      have R9 : Hid (Rws wr va LL) := Lib.hid (by
        have hC2 : Cels wr (fun _ => True) cs LL := ⟨hcl.out, fun i h1 h2 => by
          obtain ⟨q, cq, e, nn⟩ := hC.out i h2 h2
          rw [List.getElem?_eq_getElem h1] at e
          exact ⟨q, cq, Option.some.inj e, nn wr hB.out, fun _ _ => trivial⟩⟩
        exact hC2.rws (by rw [hcl.out]; exact hO.out))
      have B9 := hB.out
      clear hC hO hB
      go_wp2_with fail
      go_ret
      exact ⟨va, vc, rfl, R9.out, B9⟩
end Go.Proofs.Ytggjpallbapcmaa.Bk
