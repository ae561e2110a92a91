/-
  BOTH READERS SIDE BY SIDE.
-/
import Derived.Test.YtbghjcfepjbppaaRdu
import Derived.Test.YtbghjcfepjbppaaOrd
namespace Go.Proofs.Ytbghjcfepjbppaa
open Go.RowKit
/-- what a reader knows -/
structure RS where
  to : Int
  at_ : Int
  gone : Int
  LG : List (Int × List Int)
/-- a reader is told -/
def RS.told (nodes : Int) (LL : List (List Int)) (n e : Int) (s : RS) : RS :=
  if e = 0 ∧ s.at_ ≤ n ∧ n - s.at_ = (LL.length : Int) then ⟨s.to, n, s.gone, s.LG ++ numb s.at_ LL⟩
  else if e = 180 ∧ s.at_ < n then ⟨s.to, n, s.gone + (n - s.at_), s.LG⟩
  else ⟨nextN s.to nodes, s.at_, s.gone, s.LG⟩
structure RS.Ok (s : RS) (m : Nat) : Prop where
  to : 0 ≤ s.to ∧ s.to ≤ 7
  at_ : 0 ≤ s.at_ ∧ s.at_ ≤ 9223372036854775807
  gone : 0 ≤ s.gone ∧ s.gone ≤ s.at_
  n : s.LG.length ≤ m
  sm : ∀ x ∈ s.LG, x.2.length ≤ 17592186043904
theorem nextN_ok {to nodes : Int} (h : 0 ≤ to ∧ to ≤ 7) (hn : nodes ≤ 7) : 0 ≤ nextN to nodes ∧ nextN to nodes ≤ 7 := by
  unfold nextN; split <;> omega
theorem numb_small : ∀ (a : Int) (LL : List (List Int)), Small LL → ∀ x ∈ numb a LL, x.2.length ≤ 17592186043904
  | _, [], _, x, hx => by simp [numb] at hx
  | a, y :: l, h, x, hx => by
    rcases List.mem_cons.1 hx with rfl | hx
    · exact h y (List.mem_cons_self)
    · exact numb_small (a + 1) l (fun z hz => h z (List.mem_cons_of_mem _ hz)) x hx
theorem RS.Ok.told {s : RS} {m : Nat} {nodes n e : Int} {LL : List (List Int)} (h : s.Ok m) (hN : nodes ≤ 7) (hl : LL.length ≤ 20) (hS : Small LL) (hn : n ≤ 9223372036854775807) : (s.told nodes LL n e).Ok (m + 20) := by
  have h0 := h.at_
  have h1 := h.gone
  have h2 := h.n
  unfold RS.told
  split
  · rename_i c
    exact ⟨h.to, ⟨by show 0 ≤ n; omega, hn⟩, ⟨h1.1, by show s.gone ≤ n; omega⟩, by show (s.LG ++ numb s.at_ LL).length ≤ m + 20; rw [List.length_append, numb_len]; omega, fun x hx => by
      rcases List.mem_append.1 hx with hx | hx
      · exact h.sm x hx
      · exact numb_small _ _ hS x hx⟩
  · split
    · rename_i c
      exact ⟨h.to, ⟨by show 0 ≤ n; omega, hn⟩, ⟨by show 0 ≤ s.gone + (n - s.at_); omega, by show s.gone + (n - s.at_) ≤ n; omega⟩, by show s.LG.length ≤ m + 20; omega, h.sm⟩
    · exact ⟨nextN_ok h.to hN, h0, h1, by show s.LG.length ≤ m + 20; omega, h.sm⟩
theorem told_all {w : World} {U : Nat → Prop} {t : Nat} {nodes : Int} {nm : ByteArray} {most : Int} {s : RS} {m : Nat} {a : Option Addr} {LL : List (List Int)} (c : Nat) (n e : Int)
    (h : RdM w U t nodes s.to nm most s.at_ s.gone s.LG) (ok : s.Ok m) (hm : m ≤ 4900) (hN : nodes ≤ 7) (RW : ∀ w', Fr w w' U → Bk.Rws w' a LL) (hS : Small LL) (hl : LL.length ≤ 20) (hn : n ≤ 9223372036854775807) :
    Calls Try.prog 21 #[.pointer (some ⟨t, 0, none⟩), .slice a LL.length c, .int .i64 n, .int .i64 e] w fun r w' => r = .returned (.tuple #[]) ∧ Rch w U t nodes (s.told nodes LL n e).to nm most (s.told nodes LL n e).at_ (s.told nodes LL n e).gone (s.told nodes LL n e).LG w' := by
  have h0 := ok.at_
  have h1 := ok.gone
  have h2 := ok.n
  have h3 := ok.to
  unfold RS.told
  by_cases c1 : e = 0 ∧ s.at_ ≤ n ∧ n - s.at_ = (LL.length : Int)
  · rw [if_pos c1]
    obtain ⟨rfl, c2, c3⟩ := c1
    exact told_take c n h RW hS hl (by omega) h0.1 hn c3
  · rw [if_neg c1]
    by_cases c2 : e = 180 ∧ s.at_ < n
    · rw [if_pos c2]
      obtain ⟨rfl, c3⟩ := c2
      exact told_gone c n h ⟨h0.1, h1.1, h1.2⟩ hn c3
    · rw [if_neg c2]
      exact told_next c n e h ⟨h3.1, by omega⟩ (by omega) h0.1 hn (fun he hh => c1 ⟨he, hh.1, hh.2⟩) (fun he hh => c2 ⟨he, hh⟩)
theorem rtold_all {w : World} {V : Nat → Prop} {nodes : Int} {an ag : Option Addr} {cn cg : Nat} {s : RS} {m : Nat} {a : Option Addr} {LL : List (List Int)} (c : Nat) (n e : Int) (h : DocA w V an ag s.LG) (ok : s.Ok m) (hm : m ≤ 4900) (hV : ∀ q, V q → q < w.heap.size) (hR : RwsD w V a LL)
    (hl : LL.length ≤ 20) (hn : n ≤ 9223372036854775807) :
    Calls Try.prog 19 #[docV nodes s.to s.at_ s.gone (.slice an s.LG.length cn) (.slice ag s.LG.length cg), .slice a LL.length c, .int .i64 n, .int .i64 e] w (DocR w V nodes (s.told nodes LL n e).to (s.told nodes LL n e).at_ (s.told nodes LL n e).gone (s.told nodes LL n e).LG) := by
  have h0 := ok.at_
  have h1 := ok.gone
  have h2 := ok.n
  have h3 := ok.to
  unfold RS.told
  by_cases c1 : e = 0 ∧ s.at_ ≤ n ∧ n - s.at_ = (LL.length : Int)
  · rw [if_pos c1]
    obtain ⟨rfl, c2, c3⟩ := c1
    exact rtold_take c n h hV hR hl (by omega) h0.1 hn c3
  · rw [if_neg c1]
    by_cases c2 : e = 180 ∧ s.at_ < n
    · rw [if_pos c2]
      obtain ⟨rfl, c3⟩ := c2
      exact rtold_gone a LL.length c n h ⟨h0.1, h1.1, h1.2⟩ hn c3
    · rw [if_neg c2]
      exact rtold_next a LL.length c n e h ⟨h3.1, by omega⟩ h0.1 hn (fun he hh => c1 ⟨he, hh.1, hh.2⟩) (fun he hh => c2 ⟨he, hh⟩)
/-- the document's reader in its block -/
def boxD (nodes : Int) (s : RS) (an : Option Addr) (cn : Nat) (ag : Option Addr) (cg : Nat) : Array Value := #[.int .i64 nodes, .int .i64 s.to, .int .i64 s.at_, .int .i64 s.gone, .slice an s.LG.length cn, .slice ag s.LG.length cg]
/-- both readers: the program's at s, the document's at s2 -/
structure LRa (W0 w : World) (t bx : Nat) (nodes : Int) (nm : ByteArray) (most : Int) (U V : Nat → Prop) (s s2 : RS) (an : Option Addr) (cn : Nat) (ag : Option Addr) (cg : Nat) : Prop where
  rd : RdM w U t nodes s.to nm most s.at_ s.gone s.LG
  bk : Blk w bx 58 (boxD nodes s2 an cn ag cg)
  dc : DocA w V an ag s2.LG
  vl : ∀ q, V q → q < w.heap.size ∧ ¬ U q ∧ q ≠ bx
  va : ∀ q, q < W0.heap.size → V q
  ul : ∀ q, U q → W0.heap.size ≤ q
  ub : ¬ U bx
  bb : W0.heap.size ≤ bx
  b : Below W0.heap.size W0 w
def LR (W0 : World) (t bx : Nat) (nodes : Int) (nm : ByteArray) (most : Int) (s s2 : RS) (w : World) : Prop := ∃ U V an cn ag cg, LRa W0 w t bx nodes nm most U V s s2 an cn ag cg
section
variable {W0 w w' : World} {t bx : Nat} {nodes : Int} {nm : ByteArray} {most : Int} {U V : Nat → Prop} {s s2 : RS} {an : Option Addr} {cn : Nat} {ag : Option Addr} {cg : Nat}
theorem LRa.next (h : LRa W0 w t bx nodes nm most U V s s2 an cn ag cg) (b : Below w.heap.size w w') : LRa W0 w' t bx nodes nm most U V s s2 an cn ag cg :=
  ⟨h.rd.next b, h.bk.below b, h.dc.next b, fun q hq => ⟨Nat.lt_of_lt_of_le (h.vl q hq).1 b.size, (h.vl q hq).2⟩, h.va, h.ul, h.ub, h.bb, h.b.trans (b.mono h.b.size)⟩
theorem LR.next (h : LR W0 t bx nodes nm most s s2 w) (b : Below w.heap.size w w') : LR W0 t bx nodes nm most s s2 w' := by
  obtain ⟨U, V, an, cn, ag, cg, h⟩ := h
  exact ⟨U, V, an, cn, ag, cg, h.next b⟩
/-- the program's reader was told -/
theorem LRa.reader {s' : RS} (h : LRa W0 w t bx nodes nm most U V s s2 an cn ag cg) (k : Rch w U t nodes s'.to nm most s'.at_ s'.gone s'.LG w') : LR W0 t bx nodes nm most s' s2 w' := by
  obtain ⟨U', hr, f, hu⟩ := k
  have hbl := h.bk.lt
  refine ⟨U', V, an, cn, ag, cg, hr, h.bk.fr f h.ub, ⟨h.dc.n.fr f (fun q hq => (h.vl q hq).2.1), h.dc.g.fr f (fun q hq => (h.vl q hq).2.1)⟩, fun q hq => ⟨Nat.lt_of_lt_of_le (h.vl q hq).1 f.size, fun hh => ?_, (h.vl q hq).2.2⟩, h.va, fun q hq => ?_, fun hh => ?_, h.bb, h.b.trans (f.below h.ul h.b.size)⟩
  · rcases hu q hh with h1 | h1
    · exact (h.vl q hq).2.1 h1
    · have := (h.vl q hq).1; omega
  · rcases hu q hq with h1 | h1
    · exact h.ul q h1
    · have := h.b.size; omega
  · rcases hu bx hh with h1 | h1
    · exact h.ub h1
    · omega
/-- the document's reader was told: its answer is stored -/
theorem LRa.doc {s' : RS} {an' : Option Addr} {cn' : Nat} {ag' : Option Addr} {cg' : Nat} {w3 : World} (h : LRa W0 w t bx nodes nm most U V s s2 an cn ag cg)
    (b : Below w.heap.size w w') (n' : NumsD w' (fun q => V q ∨ w.heap.size ≤ q) an' (s'.LG.map (·.1))) (g' : RwsD w' (fun q => V q ∨ w.heap.size ≤ q) ag' (s'.LG.map (·.2)))
    (f : Fr w' w3 (fun q => q = bx)) (bk : Blk w3 bx 58 (boxD nodes s' an' cn' ag' cg')) : LR W0 t bx nodes nm most s s' w3 := by
  have hbl := h.bk.lt
  have hP : ∀ q, (V q ∨ w.heap.size ≤ q) → ¬ q = bx := fun q hq e => by
    rcases hq with hq | hq
    · exact (h.vl q hq).2.2 e
    · omega
  have hw := b.size
  have hw3 := f.size
  have ultop : ∀ q, U q → q < w.heap.size := by
    obtain ⟨gv, cs, A⟩ := h.rd
    exact A.ul
  refine ⟨U, fun q => V q ∨ (w.heap.size ≤ q ∧ q < w3.heap.size), an', cn', ag', cg', (h.rd.next b).fr f (fun q e hu => by subst e; exact h.ub hu), bk, ⟨?_, ?_⟩, fun q hq => ?_, fun q hq => .inl (h.va q hq), h.ul, h.ub, h.bb, (h.b.trans (b.mono h.b.size)).trans (f.below (fun q e => by subst e; exact h.bb) (Nat.le_trans h.b.size hw))⟩
  · have k := n'.fr f hP
    refine ⟨k.1, fun p e hx => ?_⟩
    rcases k.2 p e hx with hv | hv
    · exact .inl hv
    · refine .inr ⟨hv, ?_⟩
      obtain ⟨y, l, hyl⟩ := List.exists_cons_of_ne_nil hx
      obtain ⟨g, o, e2, hg, _⟩ := k.1 0 (by rw [hyl]; simp)
      rw [e2] at e; cases e; exact hg
  · have k := g'.fr f hP
    intro i hi
    obtain ⟨g, o, q, c, e, hl, hv, ck, nn⟩ := k i hi
    refine ⟨g, o, q, c, e, hl, ?_, ck, nn.1, fun p e2 hx => ?_⟩
    · rcases hv with hv | hv
      · exact .inl hv
      · exact .inr ⟨hv, hl⟩
    · rcases nn.2 p e2 hx with hv | hv
      · exact .inl hv
      · refine .inr ⟨hv, ?_⟩
        obtain ⟨y, l, hyl⟩ := List.exists_cons_of_ne_nil hx
        obtain ⟨g3, o3, e3, hg3, _⟩ := nn.1 0 (by rw [hyl]; simp)
        rw [e3] at e2; cases e2; exact hg3
  · rcases hq with hq | ⟨h1, h2⟩
    · exact ⟨Nat.lt_of_lt_of_le (h.vl q hq).1 (Nat.le_trans hw hw3), (h.vl q hq).2⟩
    · exact ⟨h2, fun hu => by have := ultop q hu; omega, fun e => by omega⟩
end
end Go.Proofs.Ytbghjcfepjbppaa
