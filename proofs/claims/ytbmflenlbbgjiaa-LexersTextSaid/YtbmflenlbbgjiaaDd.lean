/-
  LexersLex: Lex.
-/
import Derived.Test.YtbmflenlbbgjiaaDc
import Derived.WalkMore
namespace Go.Proofs.Ytbmflenlbbgjiaa
open Go.RowKit
set_option linter.unusedVariables false
set_option linter.unusedSimpArgs false
/-- the cells of tokens -/
def flatG (kk : IntKind) : List Tok → List Value
  | [] => []
  | x :: xs => .int kk x.1 :: .string x.2.1 :: .int .i64 x.2.2 :: flatG kk xs
theorem flatG_snoc (kk : IntKind) (ss : List Tok) (x : Tok) : flatG kk (ss ++ [x]) = flatG kk ss ++ [.int kk x.1, .string x.2.1, .int .i64 x.2.2] := by
  induction ss with
  | nil => rfl
  | cons y ys ih => simp only [List.cons_append, flatG, ih]
theorem flatG_at (kk : IntKind) : ∀ (ss : List Tok) (i : Nat) (h : i < ss.length), (flatG kk ss)[i * 3]? = some (.int kk (ss[i]).1) ∧ (flatG kk ss)[i * 3 + 1]? = some (.string (ss[i]).2.1) ∧ (flatG kk ss)[i * 3 + 2]? = some (.int .i64 (ss[i]).2.2)
  | x :: xs, 0, _ => ⟨rfl, rfl, rfl⟩
  | x :: xs, i + 1, h => by
    have := flatG_at kk xs i (by simpa using h)
    rw [show (i + 1) * 3 = i * 3 + 1 + 1 + 1 by omega, show i * 3 + 1 + 1 + 1 + 1 = (i * 3 + 1) + 1 + 1 + 1 by omega, show i * 3 + 1 + 1 + 1 + 2 = (i * 3 + 2) + 1 + 1 + 1 by omega]
    simpa [flatG] using this
/-- tokens that lie in memory -/
structure RowG (kk : IntKind) (w : World) (p : Option Addr) (sb so : Nat) (xs : List Tok) : Prop where
  here : 0 < xs.length → p = some ⟨sb, so, none⟩
  lt : 0 < xs.length → sb < w.heap.size
  kind : ∀ i (h : i < xs.length), w.cell? ⟨sb, so + i * 3, none⟩ = some (.int kk (xs[i]).1)
  text : ∀ i (h : i < xs.length), w.cell? ⟨sb, so + i * 3 + 1, none⟩ = some (.string (xs[i]).2.1)
  at_ : ∀ i (h : i < xs.length), w.cell? ⟨sb, so + i * 3 + 2, none⟩ = some (.int .i64 (xs[i]).2.2)
theorem rowg_below {kk : IntKind} {w w' : World} {p : Option Addr} {sb so : Nat} {xs : List Tok} (h : RowG kk w p sb so xs) (hb : Below w.heap.size w w') : RowG kk w' p sb so xs :=
  ⟨h.here, fun hx => Nat.lt_of_lt_of_le (h.lt hx) hb.size, fun i hi => (hb.cell (p := ⟨sb, so + i * 3, none⟩) (h.lt (by omega))).trans (h.kind i hi),
    fun i hi => (hb.cell (p := ⟨sb, so + i * 3 + 1, none⟩) (h.lt (by omega))).trans (h.text i hi), fun i hi => (hb.cell (p := ⟨sb, so + i * 3 + 2, none⟩) (h.lt (by omega))).trans (h.at_ i hi)⟩
theorem RowG.toks {w : World} {p : Option Addr} {sb so : Nat} {xs : List Tok} (h : RowG .u8 w p sb so xs) : ToksAt w p sb so xs := ⟨h.here, h.lt, h.kind, h.text, h.at_⟩
theorem own_slice {w : World} {base size n : Nat} {e : TypeId} {v : Value} {xs : List Value} (h : w.ownsRow base e size v n xs) : ∃ ao cap, v = .slice ao n cap := by
  rcases h.2 with ⟨rfl, rfl⟩ | ⟨g, cap, cur, hv, _⟩
  · exact ⟨none, 0, rfl⟩
  · exact ⟨_, cap, hv⟩
theorem own_rowg {kk : IntKind} {w : World} {base : Nat} {e : TypeId} {ao : Option Addr} {cap : Nat} {ss : List Tok} (h : w.ownsRow base e 3 (.slice ao ss.length cap) ss.length (flatG kk ss)) :
    (ss.length ≤ cap ∧ cap ≤ 9223372036854775807 ∧ (0 < cap → ∃ g, ao = some ⟨g, 0, none⟩)) ∧ ∃ g, RowG kk w ao g 0 ss := by
  obtain ⟨hl, h | ⟨g, cap', cur, hv, hb, hg, h1, h2, h3, h4⟩⟩ := h
  · obtain ⟨h, h0⟩ := h
    injection h with e1 e2 e3
    subst e1 e3
    refine ⟨⟨by omega, by omega, fun h => absurd h (by omega)⟩, 0, ⟨fun h => absurd h (by omega), fun h => absurd h (by omega), fun i h => absurd h (by omega), fun i h => absurd h (by omega), fun i h => absurd h (by omega)⟩⟩
  · injection hv with e1 _ e2
    subst e1 e2
    have hcell : ∀ j x, j < ss.length * 3 → (flatG kk ss)[j]? = some x → w.cell? ⟨g, j, none⟩ = some x := by
      intro j x hj hx
      refine cell_of_block hg ?_
      rw [← h4, List.getElem?_take, if_pos hj] at hx
      simpa using hx
    unfold maxLen at h2
    refine ⟨⟨h1, by omega, fun _ => ⟨g, rfl⟩⟩, g, ⟨fun _ => rfl, fun _ => lt_of_block hg, fun i hi => ?_, fun i hi => ?_, fun i hi => ?_⟩⟩
    · rw [Nat.zero_add]; exact hcell _ _ (by omega) (flatG_at kk ss i hi).1
    · rw [Nat.zero_add]; exact hcell _ _ (by omega) (flatG_at kk ss i hi).2.1
    · rw [Nat.zero_add]; exact hcell _ _ (by omega) (flatG_at kk ss i hi).2.2
/-- what both Lex answer -/
def lexP (kk : IntKind) (s : ByteArray) (full : Bool) (e : Ending) (w' : World) : Prop :=
  (¬ (lexR s).2.2 = 0 ∧ e = .returned (.tuple #[.slice none 0 0, .int .i64 (lexR s).2.1, .int .i64 (lexR s).2.2]) ∧ (lexR s).1 = []) ∨
    ((lexR s).2.2 = 0 ∧ (lexR s).2.1 = s.size ∧ ∃ q g cap, e = .returned (.tuple #[.slice q (lexR s).1.length cap, .int .i64 s.size, .int .i64 0]) ∧ (full = true → cap = (lexR s).1.length) ∧ RowG kk w' q g 0 (lexR s).1)
set_option maxRecDepth 100000 in
set_option maxHeartbeats 8000000 in
theorem lex_any (s : ByteArray) (hs : s.size ≤ 4096) (w : World) :
    Calls Try.prog 9 #[.string s] w fun e w' => lexP .u8 s true e w' ∧ Below w.heap.size w w' := by
  obtain ⟨i0, hi, hz0, hz1, hz2⟩ := info_parts (P := Try.prog) (e := 32) (z := .agg #[.int .u8 0, .string ⟨#[]⟩, .int .i64 0]) (size := 3) (bytes := 32) (by kernel_rfl)
  go_enter Try.func9, Try.ntmps9
  go_wp2
  go_step3
  go_wp2
  go_step3
  go_wp2
  go_loopw [3, 5] (fun p sl wr => ∃ (a : Nat) (acc : List Tok) (ao : Option Addr) (cap : Nat), p = .int .i64 a ∧ sl = .slice ao acc.length cap ∧ a ≤ s.size ∧ acc.length ≤ a ∧ Hid (lexAt s acc a ∧ wr.ownsRow w.heap.size 32 3 (.slice ao acc.length cap) acc.length (flatG .u8 acc) ∧ Below w.heap.size w wr)) (fun p _ _ => s.size - (intOf p).toNat)
  case atStart => exact ⟨0, [], none, 0, rfl, rfl, by omega, by simp, Lib.hid ⟨at_start s, World.ownsRow_nil _ _ _ _, Below.refl _ _⟩⟩
  case round =>
    obtain ⟨a, acc, ao, cap, rfl, rfl, ha, hacc, H⟩ := hrel
    by_cases hlt : a < s.size
    · have hb : (0 : Int) ≤ ((s[a].toNat : Nat) : Int) ∧ ((s[a].toNat : Nat) : Int) ≤ 255 := by have := s[a].toNat_lt; omega
      have z0 : (0 : Int) ≤ (a : Int) := by omega
      have z1 : (a : Int) < (s.size : Int) := by omega
      by_cases hc : clsN ((s[a].toNat : Nat) : Int) = 1
      · have HC := Lib.hid hc
        clear hc
        go_wp2_with (go_at_call 21; refine (class_any _ hb.1 hb.2 _).mono ?_; rintro e w' ⟨rfl, rfl⟩; rw [HC.out])
        go_roundw
        case rel => exact ⟨a + 1, acc, ao, cap, by go_num, rfl, by omega, by omega, Lib.hid ⟨at_blank H.out.1 hlt HC.out, H.out.2⟩⟩
        case measure => simp [intOf]; omega
      · have HC := Lib.hid hc
        have hc' : (clsN ((s[a].toNat : Nat) : Int) == 1) = false := by simpa using hc
        clear hc
        go_wp2_with (first | (go_at_call 21; refine (class_any _ hb.1 hb.2 _).mono ?_; rintro e w' ⟨rfl, rfl⟩) | fail)
        refine (nextx s a hlt hs _).mono ?_
        rintro e w2 ⟨⟨q, m, er, ht, hor⟩, hb2⟩
        have HT := Lib.hid ht
        have hown2 := ownsRow_below H.out.2.1 hb2
        have HB2 := Lib.hid (bstep H.out.2.2 hb2)
        have hme := tok_end hlt ht
        clear ht hb2
        rcases hor with ⟨rfl, rfl⟩ | ⟨he, rfl⟩
        · have hl : ((acc.length : Int) == 65536) = false := by simp; omega
          have hown4 := (hown2.alloc (.cells #[.int .u8 q, .string (s.extract a (a + 1 + m)), .int .i64 a] 32)).alloc (.cells #[.int .u8 q, .string (s.extract a (a + 1 + m)), .int .i64 a] 32)
          have hlt2 := hown2.lt
          have X2 := heap_alloc_new (w2.alloc (.cells #[.int .u8 q, .string (s.extract a (a + 1 + m)), .int .i64 a] 32)) (.cells #[.int .u8 q, .string (s.extract a (a + 1 + m)), .int .i64 a] 32)
          rw [show (w2.alloc (.cells #[.int .u8 q, .string (s.extract a (a + 1 + m)), .int .i64 a] 32)).heap.size = w2.heap.size + 1 by simp] at X2
          have hws := HB2.out.size
          clear hown2
          go_wp2_with (at_builtin; refine wpList_append_own _ rfl _ _ 23 rfl w.heap.size 32 i0 (.agg #[.int .u8 0, .string ⟨#[]⟩, .int .i64 0]) 3 32 Try.underlying23 hi hz0 hz1 hz2 rfl (by decide) _ _ _ rfl hown4 ⟨w2.heap.size + 1, 0, none⟩ 1 1 [.int .u8 q, .string (s.extract a (a + 1 + m)), .int .i64 a] rfl rfl ?c1 ?c2 ?c3 ?c4 ?c5 ?_)
          try (case c1 => intro j x hj; match j, hj with | 0, hj => simp at hj; subst hj; exact cell_of_block X2 rfl | 1, hj => simp at hj; subst hj; exact cell_of_block X2 rfl | 2, hj => simp at hj; subst hj; exact cell_of_block X2 rfl)
          try (case c2 => simp [Value.oneCell'])
          try (case c3 => unfold maxLen; omega)
          try (case c4 => omega)
          try (case c5 => first | omega | (simp; omega))
          intro v' w3 hown3 hgrow _
          obtain ⟨ao', cap', rfl⟩ := own_slice hown3
          have X3 : w3.heap[w2.heap.size]? = some (.cells #[.int .u8 q, .string (s.extract a (a + 1 + m)), .int .i64 a] 32) := by
            rw [hgrow.block w2.heap.size (by simp; omega) (fun e => by have := (hlt2 _ e.symm).2; omega)]
            exact heap_alloc_keep (heap_alloc_new w2 _)
          have x1 := cell_of_block (i := 1) X3 rfl
          have HBW := Lib.hid (((balloc (balloc HB2.out _) _).grown hgrow (by simp; omega) (fun k hk => (hown4.lt k hk).1)))
          have HOW := Lib.hid hown3
          have hx : ((s.extract a (a + 1 + m)).size : Int) ≤ 4096 := by simp; omega
          clear hown3 hown4 hgrow X3 X2
          go_wp2
          go_roundw
          case rel =>
            refine ⟨a + 1 + m, acc ++ [(q, s.extract a (a + 1 + m), (a : Int))], ao', cap', ?_, by simp, hme, by simp; omega, Lib.hid ⟨at_tok H.out.1 hlt HC.out HT.out, ?_, HBW.out⟩⟩
            · congr 1; simp; omega
            · rw [flatG_snoc]; simpa using HOW.out
          case measure => simp [intOf]; omega
        · have HV := Lib.hid (at_err H.out.1 hlt HC.out HT.out he)
          have he1 : (er == 0) = false := by simpa using he
          have he2 : (er != 0) = true := by simpa using he
          have HE := Lib.hid he
          clear he
          go_wp2
          rw [Exit.noGoto_ret]
          refine bodyPost_ret (v := .tuple #[.slice none 0 0, .int .i64 a, .int .i64 er]) ?_ rfl ⟨.inl ⟨by rw [HV.out]; exact HE.out, by rw [HV.out], by rw [HV.out]⟩, balloc HB2.out _⟩
          simp only [results, Try.results9]
          go_simp
    · have HV := Lib.hid (at_end H.out.1 hlt ha)
      have hao : a = s.size := by omega
      obtain ⟨⟨h1, h2, h3⟩, g, hr⟩ := own_rowg H.out.2.1
      have z1 : ¬ (a : Int) < (s.size : Int) := by omega
      have z2 : (acc.length : Int) ≤ cap := by omega
      have z3 : (0 : Int) ≤ acc.length := by omega
      have HR := Lib.hid hr
      have HB := Lib.hid H.out.2.2
      clear H hr
      by_cases hz : cap = 0
      · subst hz
        have hl0 : acc.length = 0 := by omega
        obtain rfl := List.eq_nil_of_length_eq_zero hl0
        go_wp2
        refine bodyPost_ret (v := .tuple #[.slice ao 0 0, .int .i64 a, .int .i64 0]) ?_ rfl ⟨.inr ⟨by rw [HV.out], by rw [HV.out], ao, g, 0, by rw [HV.out, hao]; rfl, fun _ => by rw [HV.out]; rfl, by rw [HV.out]; exact HR.out⟩, HB.out⟩
        simp only [results, Try.results9]
        go_simp
      · obtain ⟨g', rfl⟩ := h3 (by omega)
        go_wp2
        refine bodyPost_ret (v := .tuple #[.slice (some ⟨g', 0, none⟩) acc.length acc.length, .int .i64 a, .int .i64 0]) ?_ rfl ⟨.inr ⟨by rw [HV.out], by rw [HV.out], some ⟨g', 0, none⟩, g, acc.length, by rw [HV.out, hao], fun _ => by rw [HV.out], by rw [HV.out]; exact HR.out⟩, HB.out⟩
        simp only [results, Try.results9]
        go_simp
end Go.Proofs.Ytbmflenlbbgjiaa
