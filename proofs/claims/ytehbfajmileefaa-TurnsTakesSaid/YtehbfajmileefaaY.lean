import Derived.Test.YtehbfajmileefaaRows
import Derived.WalkKit
import Derived.ProofKit
import Derived.Lib.SmallJoins
import Derived.Deep.Slices
import Derived.Deep.Fields
namespace Go.Proofs.Ytehbfajmileefaa
open Go.ChangeShapes Go.WideShapes Go.ChangeAt Go.RowKit Go.Deep
set_option linter.unusedVariables false
theorem own : ownKnob Try.prog.godebug = none := by kernel_rfl
theorem laidOut : laidOutB Try.prog = true := by kernel_rfl
theorem list_len4 {l : List Value} (h : l.length = 4) : ∃ a0 a1 a2 a3, l = [a0, a1, a2, a3] := by
  match l, h with
  | [a0, a1, a2, a3], _ => exact ⟨a0, a1, a2, a3, rfl⟩
section
variable {H : Type} {enc : TypeId × Value → H} {P : Program}
theorem trodAll_below (hl : laidOutB P = true) {W W' : World} (hb : Below W.heap.size W W') : ∀ {ts : List TypeId} {vs : List Value} {ds : List (DataW H)} {ps : List MemPlace},
    (∀ t ∈ ts, P.readableRec t = true ∧ t < P.types.size) → DataW.TrodAll enc P W 0 (fun _ => true) true ts vs ds ps → (∀ x ∈ ps, x.block < W.heap.size) →
    DataW.TrodAll enc P W' 0 (fun b => decide (b < W.heap.size)) true ts vs ds ps
  | [], [], [], _, _, h, _ => h
  | _ :: _, _ :: _, _ :: _, _, hT, ⟨p, q, h1, h2, e⟩, hs =>
    ⟨p, q, Below.trod hl (hT _ (List.mem_cons.2 (Or.inl rfl))).1 (hT _ (List.mem_cons.2 (Or.inl rfl))).2 h1 hb (fun x hx => hs x (by rw [e]; exact List.mem_append_left _ hx)),
      trodAll_below hl hb (fun t ht => hT t (List.mem_cons.2 (Or.inr ht))) h2 (fun x hx => hs x (by rw [e]; exact List.mem_append_right _ hx)), e⟩
theorem law_post {f : Func} {s : ChangeSpec} {W W' : World} {args : Array Value} {ds gs : List (DataW H)} {before : List MemPlace} {tb : TypeId}
    (hl : laidOutB P = true) (hT : ∀ t ∈ f.params.toList, P.readableRec t = true ∧ t < P.types.size) (hf : f.resultTypes = #[tb]) (hu : P.underlying tb = some .bool)
    (hv : s.vars = []) (hs : s.fn H (ds ++ gs) = { results := [.lit (.bool true)], args := ds })
    (hW : DataW.Whole enc P f.params.toList s.vars false W args.toList ds gs before) (hb : Below W.heap.size W W') :
    s.post enc P f false true false false W args (.bool true) W' := by
  have hW' := hW
  have hlt : ∀ x ∈ before, x.block < W.heap.size := fun x hx => hW.lt x hx
  obtain ⟨p, q, hA, hV, rfl, hz, hn⟩ := hW
  refine ⟨ds, gs, p ++ q, [], p, [], hW', ?_, ?_, ?_, hb.frame _, fun h => by cases h⟩
  · rw [hs, hf]
    exact trodAll_mk1 (shut_bool hu true)
  · rw [hs]
    exact trodAll_below hl hb hT hA (fun x hx => hlt x (List.mem_append_left _ hx))
  · rw [hs, hv]
    rfl
variable {w : World} {base : Nat} {spare : Nat → Bool} {held : Bool}
theorem open_fields {r : Reach} {b0 : Nat} {t : TypeId} {fs : Array Field} {v : Value} {d : DataW H} {p : List MemPlace} (hs : P.underlying t = some (.struct fs)) (hone : oneCellFields P fs = true)
    (hC : P.cellsOf t = fs.size) (hv : Value.okWide P w r b0 t v) (h : DataW.Trod enc P w base spare held t v d p) :
    ∃ (l : List Value) (n : Nat), v = .agg l.toArray ∧ l.length = fs.size ∧ ∀ (j : Nat) (f : Field), fs[j]? = some f → ∃ c y, l[j]? = some c ∧ DataW.trod enc P w base spare held n f.type [c] = some y := by
  obtain ⟨cs, rfl, hsz⟩ := okWide_struct hs hv
  obtain ⟨fuel, hf⟩ := h
  obtain ⟨ys, n, hn, hy, hlen, hyl, hg⟩ := DataW.trod_struct hs hf
  refine ⟨cs.toList, n, by simp, by simpa [hC] using hsz, fun j f hj => ?_⟩
  obtain ⟨ho, hk⟩ := hone_of hone j f hj
  have hjl : j < fs.size := (Array.getElem?_eq_some_iff.1 hj).1
  have hcl : j < cs.toList.length := by simp [hsz, hC]; exact hjl
  have h1 := hg j f hj
  rw [ho, hk] at h1
  have hone' : ((Value.agg cs).cells.toList.drop j).take 1 = [cs.toList[j]] := by
    show (cs.toList.drop j).take 1 = _
    rw [List.drop_eq_getElem_cons hcl]
    rfl
  rw [hone'] at h1
  exact ⟨_, _, List.getElem?_eq_getElem hcl, h1.trans (List.getElem?_eq_getElem (by omega))⟩
theorem open_elems {r : Reach} {b0 : Nat} {t e : TypeId} {n : Nat} {v : Value} {d : DataW H} {p : List MemPlace} (hs : P.underlying t = some (.array n e)) (he : P.cellsOf e = 1)
    (hC : P.cellsOf t = n) (hv : Value.okWide P w r b0 t v) (h : DataW.Trod enc P w base spare held t v d p) :
    ∃ (l : List Value) (m : Nat), v = .agg l.toArray ∧ l.length = n ∧ ∀ (j : Nat), j < n → ∃ c y, l[j]? = some c ∧ DataW.trod enc P w base spare held m e [c] = some y := by
  simp only [Value.okWide, hs] at hv
  obtain ⟨cs, rfl, hsz, _⟩ := hv
  obtain ⟨fuel, hf⟩ := h
  obtain ⟨xs, m, hm, hx, hlen, hxl, hg⟩ := DataW.trod_array hs hf
  refine ⟨cs.toList, m, by simp, by simpa [hC] using hsz, fun j hj => ?_⟩
  have hcl : j < cs.toList.length := by simp [hsz, hC]; exact hj
  have h1 := hg j hj
  rw [he, Nat.mul_one] at h1
  have hone' : ((Value.agg cs).cells.toList.drop j).take 1 = [cs.toList[j]] := by
    show (cs.toList.drop j).take 1 = _
    rw [List.drop_eq_getElem_cons hcl]
    rfl
  rw [hone'] at h1
  exact ⟨_, _, List.getElem?_eq_getElem hcl, h1.trans (List.getElem?_eq_getElem (by omega))⟩
theorem cell_int {t : TypeId} {k : IntKind} {n : Nat} {c : Value} {y : DataW H × List MemPlace} (hu : P.underlying t = some (.int k)) (h : DataW.trod enc P w base spare held n t [c] = some y) :
    ∃ x, c = .int k x ∧ (Lit.int k x).wf = true := by
  obtain ⟨x, e, _, wf⟩ := DataW.trod_int hu h
  simp at e
  exact ⟨x, e, wf⟩
def flatFs (g : TypeId → Option (List TypeId)) (P : Program) : List Field → Nat → Option (List TypeId)
  | [], _ => some []
  | f :: fs, off => if f.offset = off then (g f.type).bind fun l => if l.length = P.cellsOf f.type then (flatFs g P fs (off + l.length)).map (l ++ ·) else none else none
def flatT (P : Program) : Nat → TypeId → Option (List TypeId)
  | 0, _ => none
  | d + 1, t => match P.underlying t with
    | some (.struct fs) => (flatFs (flatT P d) P fs.toList 0).bind fun l => if l.length = P.cellsOf t then some l else none
    | some (.array n e) => (flatT P d e).bind fun l => if l.length = P.cellsOf e ∧ n * l.length = P.cellsOf t then some (List.replicate n l).flatten else none
    | some _ => some [t]
    | none => none
theorem trod_flat : ∀ (d : Nat) {t : TypeId} {ts : List TypeId} {n : Nat} {cells : List Value} {y : DataW H × List MemPlace}, flatT P d t = some ts → DataW.trod enc P w base spare held n t cells = some y → cells.length = ts.length →
    ∀ (j : Nat) (s : TypeId), ts[j]? = some s → ∃ c m z, cells[j]? = some c ∧ DataW.trod enc P w base spare held m s [c] = some z
  | 0, t, ts, n, cells, y, h, _, _, j, s, _ => by simp [flatT] at h
  | d + 1, t, ts, n, cells, y, h, ht, hl, j, s, hj => by
    simp only [flatT] at h
    split at h
    · rename_i fs hu
      obtain ⟨ys, n', -, -, hc, hyl, hg⟩ := DataW.trod_struct hu ht
      simp only [Option.bind_eq_some_iff] at h
      obtain ⟨l, hl', h⟩ := h
      split at h <;> simp at h
      subst h
      have key : ∀ (fs' : List Field) (off i0 : Nat) (l : List TypeId), flatFs (flatT P d) P fs' off = some l → (∀ i f, fs'[i]? = some f → fs[i0 + i]? = some f) → off + l.length = cells.length →
          ∀ j s, l[j]? = some s → ∃ c m z, cells[off + j]? = some c ∧ DataW.trod enc P w base spare held m s [c] = some z := by
        intro fs'
        induction fs' with
        | nil => intro off i0 l h; simp [flatFs] at h; subst h; intro _ _ j s hj; simp at hj
        | cons f fs' ih =>
          intro off i0 l h hsub hlen j s hj
          simp only [flatFs] at h
          split at h
          rotate_left
          · simp at h
          rename_i ho
          simp only [Option.bind_eq_some_iff] at h
          obtain ⟨l1, hl1, h⟩ := h
          split at h
          rotate_left
          · simp at h
          rename_i hk
          simp only [Option.map_eq_some_iff] at h
          obtain ⟨l2, hl2, rfl⟩ := h
          simp only [List.length_append] at hlen
          by_cases hjl : j < l1.length
          · have hf := hsub 0 f (by simp)
            have h0 := hg _ _ hf
            have hi : i0 + 0 < ys.length := by rw [hyl]; exact (Array.getElem?_eq_some_iff.1 hf).1
            rw [List.getElem?_eq_getElem hi] at h0
            rw [List.getElem?_append_left hjl] at hj
            obtain ⟨c, m, z, h1, h2⟩ := trod_flat d hl1 h0 (by simp [ho]; omega) j s hj
            refine ⟨c, m, z, ?_, h2⟩
            rw [List.getElem?_take_of_lt (by omega), List.getElem?_drop, ho] at h1
            exact h1
          · rw [List.getElem?_append_right (by omega)] at hj
            obtain ⟨c, m, z, h1, h2⟩ := ih (off + l1.length) (i0 + 1) l2 hl2 (fun i f hi => by have := hsub (i + 1) f (by simpa using hi); rw [Nat.add_assoc, Nat.add_comm 1 i]; exact this) (by omega) (j - l1.length) s hj
            exact ⟨c, m, z, by rw [show off + l1.length + (j - l1.length) = off + j by omega] at h1; exact h1, h2⟩
      obtain ⟨c, m, z, h1, h2⟩ := key fs.toList 0 0 l hl' (fun i f hi => by simpa using hi) (by omega) j s hj
      exact ⟨c, m, z, by simpa using h1, h2⟩
    · rename_i k e hu
      obtain ⟨ys, n', -, -, hc, hyl, hg⟩ := DataW.trod_array hu ht
      simp only [Option.bind_eq_some_iff] at h
      obtain ⟨l, hl', h⟩ := h
      split at h <;> simp at h
      rename_i hk
      obtain ⟨hk, hn⟩ := hk
      subst h
      have key : ∀ (r i0 : Nat), i0 + r = k → ∀ j s, (List.replicate r l).flatten[j]? = some s → ∃ c m z, cells[i0 * l.length + j]? = some c ∧ DataW.trod enc P w base spare held m s [c] = some z := by
        intro r
        induction r with
        | zero => intro i0 _ j s hj; simp at hj
        | succ r ih =>
          intro i0 hr j s hj
          rw [List.replicate_succ, List.flatten_cons] at hj
          have hle : (i0 + 1) * l.length ≤ cells.length := by
            rw [hc, ← hn]; exact Nat.mul_le_mul_right _ (by omega)
          rw [Nat.add_mul, Nat.one_mul] at hle
          by_cases hjl : j < l.length
          · have h0 := hg i0 (by omega)
            rw [List.getElem?_eq_getElem (by omega)] at h0
            rw [List.getElem?_append_left hjl] at hj
            obtain ⟨c, m, z, h1, h2⟩ := trod_flat d hl' h0 (by rw [← hk]; simp; omega) j s hj
            refine ⟨c, m, z, ?_, h2⟩
            rw [List.getElem?_take_of_lt (by omega), List.getElem?_drop, ← hk] at h1
            exact h1
          · rw [List.getElem?_append_right (by omega)] at hj
            obtain ⟨c, m, z, h1, h2⟩ := ih (i0 + 1) (by omega) (j - l.length) s hj
            refine ⟨c, m, z, ?_, h2⟩
            rw [Nat.add_mul, Nat.one_mul] at h1
            rw [show i0 * l.length + l.length + (j - l.length) = i0 * l.length + j by omega] at h1
            exact h1
      obtain ⟨c, m, z, h1, h2⟩ := key k 0 (by omega) j s hj
      exact ⟨c, m, z, by simpa using h1, h2⟩
    · simp at h
      subst h
      simp at hl
      match cells, hl with
      | [c], _ =>
        cases j with
        | zero => simp at hj; subst hj; exact ⟨c, n, y, rfl, ht⟩
        | succ j => simp at hj
    · simp at h
theorem open_flat {r : Reach} {b0 : Nat} {t : TypeId} {ts : List TypeId} {v : Value} {d : DataW H} {p : List MemPlace} (hs : (∃ fs, P.underlying t = some (.struct fs)) ∨ ∃ n e, P.underlying t = some (.array n e)) (hf : flatT P 20 t = some ts) (hts : ts.length = P.cellsOf t)
    (hv : Value.okWide P w r b0 t v) (h : DataW.Trod enc P w base spare held t v d p) :
    ∃ (l : List Value), v = .agg l.toArray ∧ l.length = ts.length ∧ ∀ (j : Nat) (s : TypeId), ts[j]? = some s → ∃ c m z, l[j]? = some c ∧ DataW.trod enc P w base spare held m s [c] = some z := by
  obtain ⟨cs, rfl, hsz⟩ : ∃ cs, v = .agg cs ∧ cs.size = P.cellsOf t := by
    rcases hs with ⟨fs, hs⟩ | ⟨n, e, hs⟩
    · exact okWide_struct hs hv
    · simp only [Value.okWide, hs] at hv
      obtain ⟨cs, rfl, hsz, _⟩ := hv
      exact ⟨cs, rfl, hsz⟩
  obtain ⟨fuel, hg⟩ := h
  exact ⟨cs.toList, by simp, by simp [hsz, hts], trod_flat 20 hf hg (by show cs.toList.length = _; simp [hsz, hts])⟩
theorem cell_bool {t : TypeId} {n : Nat} {c : Value} {y : DataW H × List MemPlace} (hu : P.underlying t = some .bool) (h : DataW.trod enc P w base spare held n t [c] = some y) :
    ∃ x, c = .bool x := by
  obtain ⟨x, e, _⟩ := DataW.trod_bool hu h
  simp at e
  exact ⟨x, e⟩
theorem cell_string {t : TypeId} {n : Nat} {c : Value} {y : DataW H × List MemPlace} (hu : P.underlying t = some .string) (h : DataW.trod enc P w base spare held n t [c] = some y) :
    ∃ x, c = .string x ∧ x.size ≤ maxLen := by
  obtain ⟨x, e, _, hx⟩ := DataW.trod_string hu h
  simp at e
  exact ⟨x, e, hx⟩
end
end Go.Proofs.Ytehbfajmileefaa
