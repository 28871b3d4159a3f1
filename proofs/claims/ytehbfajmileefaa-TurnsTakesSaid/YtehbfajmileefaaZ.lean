import Derived.WalkKit
import Derived.WalkSpells
import Derived.WalkLawsBesides
import Derived.Lib.Hide
import Derived.BigQuiet
import Derived.Deep.QuietTactic
import Derived.OneCell
namespace Go.Proofs.Ytehbfajmileefaa
open Go.RowKit
theorem ret_int {k : IntKind} {a b : Int} (h : a = b) : Ending.returned (.int k a) = .returned (.int k b) := by rw [h]
theorem ret_bool {a b : Bool} (h : a = b) : Ending.returned (.bool a) = .returned (.bool b) := by rw [h]
theorem bcell {W w1 : World} (hb : Below W.heap.size W w1) : (∀ b o, b < W.heap.size → w1.cell? ⟨b, o, none⟩ = W.cell? ⟨b, o, none⟩) ∧ (∀ b o, b < W.heap.size → w1.frozen? ⟨b, o, none⟩ = W.frozen? ⟨b, o, none⟩) :=
  ⟨fun b o h => hb.cell (p := ⟨b, o, none⟩) h, fun b o h => hb.frozen (p := ⟨b, o, none⟩) h⟩
theorem bstep {a b c : World} (h : Below a.heap.size a b) (k : Below b.heap.size b c) : Below a.heap.size a c := h.trans (k.mono h.size)
theorem balloc {a b : World} (h : Below a.heap.size a b) (o : Obj) : Below a.heap.size a (b.alloc o) := h.alloc h.size o
theorem bset {a b : World} {p : Addr} (h : Below a.heap.size a b) (hp : a.heap.size ≤ p.block) (u : Value) : Below a.heap.size a (b.setCell p u) := h.setCell hp u
theorem bdrew {a b : World} (h : Below a.heap.size a b) : Below a.heap.size a b.drew := h.drew
theorem bdrewN {a b : World} (h : Below a.heap.size a b) (n : Nat) : Below a.heap.size a (b.drewN n) := ⟨h.os, h.tape, h.output, h.size, h.block⟩
def BelowOf (w : World) : Type := { w' : World // Below w.heap.size w w' }
instance BelowOf.some (w : World) : Nonempty (BelowOf w) := ⟨⟨w, Below.refl _ _⟩⟩
def BelowOf.world {w : World} (d : BelowOf w) : World := d.1
theorem BelowOf.below {w : World} (d : BelowOf w) : Below w.heap.size w d.world := d.2
theorem BelowOf.cell {w : World} (d : BelowOf w) (b o : Nat) (h : b < w.heap.size) : d.world.cell? ⟨b, o, none⟩ = w.cell? ⟨b, o, none⟩ := d.2.cell (p := ⟨b, o, none⟩) h
theorem BelowOf.frozen {w : World} (d : BelowOf w) (b o : Nat) (h : b < w.heap.size) : d.world.frozen? ⟨b, o, none⟩ = w.frozen? ⟨b, o, none⟩ := d.2.frozen (p := ⟨b, o, none⟩) h
theorem wp_region_grow {P : Program} {id : Nat} {Q : Exit → Act → World → Prop} {a : Act} {w : World} {l : List Oper} (hm : P.follows .mixedOrders = true) (hB : Region.lexB .any l.toArray = true)
    (h : wpQuiet P l.toArray (fun w' => ∃ d : BelowOf w, w' = d.world) (fun a' => ∀ w', Below w.heap.size w w' → Q .normal a' w') l a) : (Code.region id l.toArray true).wp P Q a w := by
  refine wp_region_quiet (C := fun w' => ∃ d : BelowOf w, w' = d.world) hm hB ⟨⟨_, (Below.refl _ w).drew⟩, rfl⟩ ?_
  have hQ : (fun a' => ∀ w', Below w.heap.size w w' → Q .normal a' w') = fun a' => ∀ w', (∃ d : BelowOf w, w' = d.world) → Q .normal a' w' := by
    funext a'
    exact propext ⟨fun h w' ⟨d, e⟩ => e ▸ h _ d.2, fun h w' hb => h w' ⟨⟨w', hb⟩, rfl⟩⟩
  rw [hQ] at h
  simpa using h
theorem grow_call {P : Program} {f : FuncId} {args : Array Value} {w : World} {d : BelowOf w} {v : Value} (h : Calls P f args d.world fun e w' => e = .returned v ∧ Below d.world.heap.size d.world w') :
    Calls P f args d.world fun e w'' => e = .returned v ∧ ∃ d' : BelowOf w, w'' = d'.world :=
  h.mono fun _ w'' ⟨he, hb⟩ => ⟨he, ⟨w'', bstep d.2 hb⟩, rfl⟩
theorem grow_same {P : Program} {f : FuncId} {args : Array Value} {w : World} {d : BelowOf w} {v : Value} (h : Calls P f args d.world fun e w' => e = .returned v ∧ d.world = w') :
    Calls P f args d.world fun e w'' => e = .returned v ∧ ∃ d' : BelowOf w, w'' = d'.world :=
  h.mono fun _ _ ⟨he, hb⟩ => ⟨he, d, hb.symm⟩
attribute [go_sem] BelowOf.cell BelowOf.frozen
structure Turned (l : List Nat) (w w' : World) : Prop where
  os : w'.os = w.os
  tape : w'.tape = w.tape
  output : w'.output = w.output
  size : w.heap.size ≤ w'.heap.size
  block : ∀ k, k < w.heap.size → k ∉ l → w'.heap[k]? = w.heap[k]?
theorem Turned.refl (l : List Nat) (w : World) : Turned l w w := ⟨rfl, rfl, rfl, Nat.le_refl _, fun _ _ _ => rfl⟩
theorem Turned.step {l m : List Nat} {a b c : World} (h : Turned l a b) (k : Turned m b c) (hl : ∀ x, x ∈ m → x ∈ l ∨ a.heap.size ≤ x) : Turned l a c :=
  ⟨k.os.trans h.os, k.tape.trans h.tape, k.output.trans h.output, Nat.le_trans h.size k.size, fun i hi hn =>
    (k.block i (Nat.lt_of_lt_of_le hi h.size) (fun hm => (hl i hm).elim hn (fun g => absurd hi (by omega)))).trans (h.block i hi hn)⟩
theorem Turned.of_below {l : List Nat} {a b : World} (h : Below a.heap.size a b) : Turned l a b := ⟨h.os, h.tape, h.output, h.size, fun k hk _ => h.block k hk⟩
theorem Turned.below {a b : World} (h : Turned [] a b) : Below a.heap.size a b := ⟨h.os, h.tape, h.output, h.size, fun k hk => h.block k hk (by simp)⟩
theorem tbelow {l : List Nat} {a b c : World} (h : Turned l a b) (k : Below b.heap.size b c) : Turned l a c := h.step (.of_below (l := []) k) (by simp)
theorem talloc {l : List Nat} {a b : World} (h : Turned l a b) (o : Obj) : Turned l a (b.alloc o) := tbelow h ((Below.refl _ _).alloc (Nat.le_refl _) _)
theorem tdrew {l : List Nat} {a b : World} (h : Turned l a b) : Turned l a b.drew := ⟨h.os, h.tape, h.output, h.size, h.block⟩
theorem tset {l : List Nat} {a b : World} {p : Addr} (h : Turned l a b) (hp : p.block ∈ l ∨ a.heap.size ≤ p.block) (u : Value) : Turned l a (b.setCell p u) :=
  h.step (m := [p.block]) ⟨rfl, rfl, rfl, by simp [World.setCell], fun k _ hm => Below.heap_setCell b p u k (by simpa using hm)⟩ (by intro x hx; simp at hx; subst hx; exact hp)
theorem tgrown {l : List Nat} {a b c : World} {row : Option Nat} (h : Turned l a b) (k : b.grownBy c row) (hr : ∀ g, row = some g → g ∈ l ∨ a.heap.size ≤ g) : Turned l a c :=
  h.step (m := row.toList) ⟨k.os, k.tape, k.output, k.size, fun i hi hm => k.block i hi (fun e => hm (by simp [← e]))⟩ (by intro x hx; exact hr x (by simpa using hx))
theorem heap_setCell_same {w : World} {b i : Nat} {cs : Array Value} {T : TypeId} {f : Nat × Nat} {v : Value} (h : w.heap[b]? = some (.cells cs T f)) : (w.setCell ⟨b, i, none⟩ v).heap[b]? = some (.cells (cs.setIfInBounds i v) T f) := by
  have hlt := lt_of_block h
  have h' : w.heap[b] = .cells cs T f := by simpa [Array.getElem?_eq_getElem hlt] using h
  show (w.heap.modify b _)[b]? = _
  rw [Array.getElem?_eq_getElem (by simpa using hlt), Array.getElem_modify_self, h']
  rfl
theorem heap_setCell_ne {w : World} {p : Addr} {k : Nat} {v : Value} {x : Option Obj} (h : w.heap[k]? = x) (hk : k ≠ p.block) : (w.setCell p v).heap[k]? = x := (Below.heap_setCell w p v k hk).trans h
theorem heap_alloc_keep {w : World} {k : Nat} {o x : Obj} (h : w.heap[k]? = some x) : (w.alloc o).heap[k]? = some x := (Below.heap_alloc w o k (lt_of_block h)).trans h
theorem heap_below_keep {w w' : World} {k : Nat} {x : Obj} (hb : Below w.heap.size w w') (h : w.heap[k]? = some x) : w'.heap[k]? = some x := (hb.block k (lt_of_block h)).trans h
theorem heap_turned_keep {l : List Nat} {w w' : World} {k : Nat} {x : Obj} (hb : Turned l w w') (h : w.heap[k]? = some x) (hn : k ∉ l) : w'.heap[k]? = some x := (hb.block k (lt_of_block h) hn).trans h
theorem cell_of_block {w : World} {b i : Nat} {cs : Array Value} {T : TypeId} {f : Nat × Nat} {v : Value} (h : w.heap[b]? = some (.cells cs T f)) (hv : cs[i]? = some v) : w.cell? ⟨b, i, none⟩ = some v := by simp [World.cell?, h, hv]
theorem free_of_block {w : World} {b i : Nat} {cs : Array Value} {T : TypeId} (h : w.heap[b]? = some (.cells cs T (0, 0))) : w.frozen? ⟨b, i, none⟩ = false := by simp [World.frozen?, h]
theorem ownsRow_turned {w w' : World} {base : Nat} {e : TypeId} {size : Nat} {v : Value} {n : Nat} {xs : List Value} {l : List Nat} (h : w.ownsRow base e size v n xs) (ht : Turned l w w') (hl : ∀ x, x ∈ l → x < base) : w'.ownsRow base e size v n xs := by
  obtain ⟨h1, h2⟩ := h
  refine ⟨h1, ?_⟩
  rcases h2 with h2 | ⟨g, cap, cur, hv, hg, hh, r⟩
  · exact .inl h2
  · exact .inr ⟨g, cap, cur, hv, hg, heap_turned_keep ht hh (fun hm => absurd (hl g hm) (by omega)), r⟩
theorem ownsRow_below {w w' : World} {base : Nat} {e : TypeId} {size : Nat} {v : Value} {n : Nat} {xs : List Value} (h : w.ownsRow base e size v n xs) (ht : Below w.heap.size w w') : w'.ownsRow base e size v n xs :=
  ownsRow_turned (l := []) h (.of_below ht) (by simp)
theorem heap_grown_keep {w w' : World} {base : Nat} {e : TypeId} {size : Nat} {v : Value} {n : Nat} {xs : List Value} {k : Nat} {x : Obj} (hg : w.grownBy w' v.ownBlock) (ho : w.ownsRow base e size v n xs) (h : w.heap[k]? = some x) (hk : k < base) : w'.heap[k]? = some x :=
  (hg.block k (lt_of_block h) (fun e => by have := (ho.lt k e.symm).1; omega)).trans h
theorem turned_grown {w w' : World} {base : Nat} {e : TypeId} {size : Nat} {v : Value} {n : Nat} {xs : List Value} {a : World} {l : List Nat} (ht : Turned l a w) (hg : w.grownBy w' v.ownBlock) (ho : w.ownsRow base e size v n xs) (hk : a.heap.size ≤ base) : Turned l a w' :=
  tgrown ht hg (fun g hv => .inr (by have := (ho.lt g hv).1; omega))
end Go.Proofs.Ytehbfajmileefaa
