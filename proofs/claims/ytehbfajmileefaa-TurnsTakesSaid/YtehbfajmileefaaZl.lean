import Derived.Test.YtehbfajmileefaaZk
import Derived.Test.YtehbfajmileefaaVj
import Derived.Test.YtehbfajmileefaaFf
import GoSem.ClaimWide
namespace Go.Proofs.Ytehbfajmileefaa.Px
open Go.RowKit Go.Proofs.Ytehbfajmileefaa.Vx Go.Proofs.Ytehbfajmileefaa.Fx
set_option linter.unusedVariables false
set_option linter.unusedSimpArgs false
section
variable {K : X → CX} {KM : X → Mm → CX} {M M1 M2 : Mm} {cl : Cl}
theorem toX_int (k : IntKind) (n : Int) : V.toX (.int k (.int n)) = .i k n := rfl
theorem toX_bool (b : Bool) : V.toX (.bool (.bool b)) = .b b := rfl
theorem toX_str (t : T) : V.toX (.str t) = .v (.str t) := rfl
theorem toX_nils : V.toX .nils = .v .nils := rfl
theorem toX_nilp : V.toX .nilp = .v .nilp := rfl
theorem toX_ptr (i o : Nat) : V.toX (.ptr i o) = .v (.ptr i o) := rfl
theorem toX_sl (i o n : Nat) (c : Cap) : V.toX (.sl i o n c) = .v (.sl i o n c) := rfl
theorem toX_agg (l : List V) : V.toX (.agg l) = .v (.agg l) := rfl
theorem toX_tup (l : List V) : V.toX (.tup l) = .v (.tup l) := rfl
theorem toV_i (k : IntKind) (n : Int) : (X.i k n).toV = .int k (.int n) := rfl
theorem toV_b (b : Bool) : (X.b b).toV = .bool (.bool b) := rfl
theorem toV_v (v : V) : (X.v v).toV = v := rfl
theorem cells_i (k : IntKind) (n : Int) : (X.i k n).cells = [.int k (.int n)] := rfl
theorem cells_b (b : Bool) : (X.b b).cells = [.bool (.bool b)] := rfl
theorem cells_agg (l : List V) : (X.v (.agg l)).cells = l := rfl
theorem cells_sl (i o n : Nat) (c : Cap) : (X.v (.sl i o n c)).cells = [.sl i o n c] := rfl
theorem cells_nils : (X.v .nils).cells = [.nils] := rfl
theorem cells_str (t : T) : (X.v (.str t)).cells = [.str t] := rfl
theorem cells_ptr (i o : Nat) : (X.v (.ptr i o)).cells = [.ptr i o] := rfl
theorem oC_some {α : Type} (a : α) (k : α → CX) : oC (some a) k = k a := rfl
theorem vBin_i (op : BinOp) (k : IntKind) (m n : Int) : vBin op (.i k m) (.i k n) K = oC (binB op k m n) K := by simp [vBin]
theorem b_add (k : IntKind) (m n : Int) : binB .add k m n = some (.i k (k.wrap (m + n))) := rfl
theorem b_sub (k : IntKind) (m n : Int) : binB .sub k m n = some (.i k (k.wrap (m - n))) := rfl
theorem b_mul (k : IntKind) (m n : Int) : binB .mul k m n = some (.i k (k.wrap (m * n))) := rfl
theorem b_eql (k : IntKind) (m n : Int) : binB .eql k m n = some (.b (decide (m = n))) := rfl
theorem b_neq (k : IntKind) (m n : Int) : binB .neq k m n = some (.b (!decide (m = n))) := rfl
theorem b_lss (k : IntKind) (m n : Int) : binB .lss k m n = some (.b (decide (m < n))) := rfl
theorem b_leq (k : IntKind) (m n : Int) : binB .leq k m n = some (.b (decide (m ≤ n))) := rfl
theorem b_gtr (k : IntKind) (m n : Int) : binB .gtr k m n = some (.b (decide (n < m))) := rfl
theorem b_geq (k : IntKind) (m n : Int) : binB .geq k m n = some (.b (decide (n ≤ m))) := rfl
theorem vNot_b (b : Bool) : vNot (.b b) K = K (.b (!b)) := rfl
theorem vIf_b (t : Bool) (a b : CX) : vIf (.b t) a b = if t = true then a else b := rfl
theorem vPick_b (t : Bool) (x y : X) : vPick (.b t) x y K = K (if t = true then x else y) := rfl
theorem vGuard_b (b want : Bool) (o : (X → Mm → CX) → CX) : vGuard (.b b) want o M KM = if b = want then o KM else KM (.v .undef) M := rfl
theorem vGuard_u (want : Bool) (o : (X → Mm → CX) → CX) : vGuard (.v .undef) want o M KM = KM (.v .undef) M := rfl
theorem vFieldAddr_p (d i o : Nat) : vFieldAddr d (.v (.ptr i o)) K = K (.v (.ptr i (o + d))) := rfl
theorem vLenS_n : vLenS (.v .nils) K = K (.i .i64 0) := rfl
theorem vLenS_s (i o n : Nat) (c : Cap) : vLenS (.v (.sl i o n c)) K = K (.i .i64 n) := rfl
theorem vLenT_s (b : ByteArray) : vLenT (.v (.str (.str b))) K = K (.i .i64 b.data.toList.length) := rfl
theorem vExt_t (i : Nat) (l : List V) : vExt i (.v (.tup l)) K = oC l[i]? fun u => K (V.toX u) := rfl
theorem vLoad1_p (i o : Nat) : vLoad1 (.v (.ptr i o)) M K = oC (lookC M.H i) fun b => oC b.cells[o]? fun u => if u.one = true then K (V.toX u) else .no := rfl
theorem vLoadN_p (n i o : Nat) : vLoadN n (.v (.ptr i o)) M K = oC (lookC M.H i) fun b => if n ≤ (b.cells.drop o).length then K (.v (.agg ((b.cells.drop o).take n))) else .no := rfl
theorem vIndexAddr_s (z i o n : Nat) (c : Cap) (k : IntKind) (j : Int) : vIndexAddr z (.v (.sl i o n c)) (.i k j) K = if 0 ≤ j ∧ j < n then K (.v (.ptr i (o + j.toNat * z))) else .no := rfl
theorem vAlloc_e (t z : Nat) (cells : List V) : vAlloc t z cells M KM = KM (.v (.ptr M.nx 0)) ⟨(M.nx, ⟨t, z, cells, false, false⟩) :: M.H, M.nx + 1, M.lw⟩ := rfl
theorem vBox_e (t z : Nat) (x : X) : vBox t z x M KM = KM (.v (.ptr M.nx 0)) ⟨(M.nx, ⟨t, z, x.cells, false, false⟩) :: M.H, M.nx + 1, M.lw⟩ := rfl
theorem vBuild_0 (z : List V) : vBuild z [] K = K (.v (.agg z)) := rfl
theorem chk_true (k : CX) : chk True k = k := by simp [chk]
theorem chk_of {c : Prop} (h : c) (k : CX) : chk c k = k := by simp [chk, h]
theorem jn_e {α β : Type} (f : α → β) (k : α) : jn f k = f k := rfl
theorem vCall_of {f : Nat} {xs : List X} {x : X} {M' : Mm} (h : cl f xs M = .val x M') : vCall cl f xs M KM = KM x ⟨M'.H, M'.nx, minN M'.lw M.lw⟩ := by simp only [vCall, h]
theorem vCallV_e (f : Nat) (a b : List V) (xs : List X) : vCallV cl (.v (.fn (.func f) a b)) xs M KM = vCall cl f (a.map V.toX ++ (xs ++ b.map V.toX)) M KM := rfl
theorem wrap64 {n : Int} (h1 : -9223372036854775808 ≤ n) (h2 : n ≤ 9223372036854775807) : IntKind.i64.wrap n = n := by rw [IntKind.wrap_i64]; omega
theorem lookC_eq' {i : Nat} {b : Blk} (H : Hp) (h : b.mp = false) : lookC ((i, b) :: H) i = some b := by simp [lookC, Vx.look, h]
theorem lookC_ne {i j : Nat} {b : Blk} (H : Hp) (h : j ≠ i) : lookC ((j, b) :: H) i = lookC H i := by
  simp only [lookC]
  rw [look_cons, if_neg h]
structure Keep (M M' : Mm) : Prop where
  nx : M.nx ≤ M'.nx
  old : ∀ i, i < M.nx → Vx.look M'.H i = Vx.look M.H i
  ro : ∀ i b, M.nx ≤ i → Vx.look M'.H i = some b → b.ro = false
theorem Keep.refl' (h : ∀ i b, M.nx ≤ i → Vx.look M.H i = some b → b.ro = false) : Keep M M := ⟨Nat.le_refl _, fun _ _ => rfl, h⟩
theorem Keep.trans (h : Keep M M1) (k : Keep M1 M2) : Keep M M2 := ⟨Nat.le_trans h.nx k.nx, fun i hi => (k.old i (Nat.lt_of_lt_of_le hi h.nx)).trans (h.old i hi), fun i b hi hb => by
  by_cases hlt : i < M1.nx
  · rw [k.old i hlt] at hb; exact h.ro i b hi hb
  · exact k.ro i b (by omega) hb⟩
theorem Keep.lookC (h : Keep M M1) {i : Nat} (hi : i < M.nx) : lookC M1.H i = Vx.lookC M.H i := by simp only [Vx.lookC, h.old i hi]
abbrev Fresh (M : Mm) : Prop := Srt M.H M.nx
theorem Fresh.none (h : Fresh M) {i : Nat} (hi : M.nx ≤ i) : Vx.look M.H i = none := by
  cases e : Vx.look M.H i with
  | none => rfl
  | some b => have : i < M.nx := h.lt _ (look_mem e); omega
theorem Keep.refl (h : Fresh M) : Keep M M := .refl' fun i b hi hb => by rw [Fresh.none h hi] at hb; simp at hb
theorem Fresh.new (h : Fresh M) (b : Blk) (lw : Nat) : Fresh ⟨(M.nx, b) :: M.H, M.nx + 1, lw⟩ := Srt.cons h b
theorem Keep.new (h : Fresh M) {b : Blk} (hb : b.ro = false) (lw : Nat) : Keep M ⟨(M.nx, b) :: M.H, M.nx + 1, lw⟩ := ⟨Nat.le_succ _, fun i hi => by
  show Vx.look ((M.nx, b) :: M.H) i = _
  rw [look_cons, if_neg (by omega)], fun i c hi hc => by
  have hc : Vx.look ((M.nx, b) :: M.H) i = some c := hc
  rw [look_cons] at hc
  split at hc
  · simp at hc; subst hc; exact hb
  · rw [Fresh.none h hi] at hc; simp at hc⟩
theorem Keep.lw (h : Keep M M1) (l l' : Nat) : Keep ⟨M.H, M.nx, l⟩ ⟨M1.H, M1.nx, l'⟩ := ⟨h.nx, h.old, h.ro⟩
theorem look_young (n : Nat) : ∀ (H : Hp) (i : Nat), i < n → Vx.look (young n H) i = Vx.look H i
  | [], i, _ => rfl
  | (j, b) :: H, i, hi => by
    show Vx.look (Bool.rec (motive := fun _ => Hp) ((j, b) :: H) (young n H) (Nat.ble n j)) i = _
    cases h : Nat.ble n j with
    | false => rfl
    | true =>
      rw [look_young n H i hi, look_cons, if_neg]
      have := Nat.le_of_ble_eq_true h
      omega
theorem look_young_of {n : Nat} : ∀ {H : Hp} {i : Nat} {b : Blk}, Vx.look (young n H) i = some b → (H.map (·.1)).Nodup → Vx.look H i = some b
  | [], i, b, h, _ => by simp [young, Vx.look] at h
  | (j, c) :: H, i, b, h, hn => by
    have h : Vx.look (Bool.rec (motive := fun _ => Hp) ((j, c) :: H) (young n H) (Nat.ble n j)) i = some b := h
    cases hb : Nat.ble n j with
    | false => rw [hb] at h; exact h
    | true =>
      rw [hb] at h
      simp only [List.map_cons, List.nodup_cons] at hn
      have h2 := look_young_of h hn.2
      rw [look_cons, if_neg]
      · exact h2
      · intro e
        subst e
        exact hn.1 (List.mem_map.2 ⟨_, look_mem h2, rfl⟩)
def Ret (c : CX) (M : Mm) (Q : X → Hp → Prop) : Prop := ∃ x M', c = .val x M' ∧ Keep M M' ∧ Fresh M' ∧ Q x M'.H
theorem Ret.call {f : Nat} {xs : List X} {Q : X → Hp → Prop} (h : Ret (cl f xs M) M Q) : ∃ x M', (∀ KM : X → Mm → CX, vCall cl f xs M KM = KM x M') ∧ Keep M M' ∧ Fresh M' ∧ Q x M'.H := by
  obtain ⟨x, M', h1, h2, h3, h4⟩ := h
  exact ⟨x, ⟨M'.H, M'.nx, minN M'.lw M.lw⟩, fun KM => vCall_of h1, ⟨h2.nx, h2.old, h2.ro⟩, h3, h4⟩
theorem Ret.of_eq {c c' : CX} {Q : X → Hp → Prop} (e : c = c') (h : Ret c' M Q) : Ret c M Q := e ▸ h
theorem Ret.mono {c : CX} {Q Q' : X → Hp → Prop} (h : Ret c M Q) (hq : ∀ x H, Q x H → Q' x H) : Ret c M Q' := by
  obtain ⟨x, M', h1, h2, h3, h4⟩ := h
  exact ⟨x, M', h1, h2, h3, hq _ _ h4⟩
theorem drop_keep {p : Bool} {lw : Nat} {M0 : Mm} {lw' : Nat} (h : Keep M0 M1) (hf : Fresh M1) (hx : M0.nx = M.nx) (hH : M0.H = M.H) : Keep M ⟨dropX p M.nx lw M1.H, M1.nx, lw'⟩ ∧ Fresh ⟨dropX p M.nx lw M1.H, M1.nx, lw'⟩ := by
  have h' : Keep M M1 := ⟨by rw [← hx]; exact h.nx, fun i hi => by rw [← hH]; exact h.old i (by rw [hx]; exact hi), fun i b hi => h.ro i b (by rw [hx]; exact hi)⟩
  have hn := h'.nx
  cases p with
  | false => exact ⟨⟨h'.nx, h'.old, h'.ro⟩, hf⟩
  | true =>
    show Keep M ⟨Bool.rec (motive := fun _ => Hp) (young M.nx M1.H) M1.H (Nat.blt lw M.nx), M1.nx, lw'⟩ ∧ Fresh ⟨Bool.rec (motive := fun _ => Hp) (young M.nx M1.H) M1.H (Nat.blt lw M.nx), M1.nx, lw'⟩
    cases Nat.blt lw M.nx with
    | true => exact ⟨⟨h'.nx, h'.old, h'.ro⟩, hf⟩
    | false =>
      exact ⟨⟨h'.nx, fun i hi => (look_young _ _ _ hi).trans (h'.old i hi), fun i b hi hb => h'.ro i b hi (look_young_of hb hf.nd)⟩, Srt.sub hf (young_sub _ _)⟩
theorem Ret.val {x : X} {p : Bool} {lw lw' : Nat} {M0 : Mm} {Q : X → Hp → Prop} (h : Keep M0 M1) (hf : Fresh M1) (hx : M0.nx = M.nx) (hH : M0.H = M.H) (hq : (p = true → ∀ H, Q x H) ∧ (p = false → Q x M1.H)) : Ret (.val x ⟨dropX p M.nx lw M1.H, M1.nx, lw'⟩) M Q := by
  obtain ⟨h1, h2⟩ := drop_keep (p := p) (lw := lw) (lw' := lw') h hf hx hH
  refine ⟨x, _, rfl, h1, h2, ?_⟩
  cases p with
  | true => exact hq.1 rfl _
  | false => exact hq.2 rfl
theorem finD_u (P : Program) (t : TT) (m : Nat) (ih : Cl) (nx0 : Nat) (rs : List (ResultVar × X)) (M : Mm) : finD P t m ih nx0 (.v .undef) rs M = outD P rs nx0 M := rfl
theorem outD_1 (P : Program) (t nx0 : Nat) (x : X) (M : Mm) : outD P [(.tmp t, x)] nx0 M = .val (V.toX x.toV) ⟨dropX (V.plainL [x.toV]) nx0 M.lw M.H, M.nx, M.lw⟩ := rfl
theorem Ret.fin1 {P : Program} {t : TT} {m k : Nat} {ih : Cl} {x : X} {lw : Nat} {Q : X → Hp → Prop} (h : Keep ⟨M.H, M.nx, lw⟩ M1) (hf : Fresh M1) (hp : V.plainL [x.toV] = true) (hq : ∀ H, Q (V.toX x.toV) H) : Ret (finD P t m ih M.nx (.v .undef) [(.tmp k, x)] M1) M Q := by
  rw [finD_u, outD_1, hp]
  exact Ret.val h hf rfl rfl ⟨fun _ => hq, fun e => by simp at e⟩
theorem Ret.fin1h {P : Program} {t : TT} {m k : Nat} {ih : Cl} {x : X} {lw : Nat} {Q : X → Hp → Prop} (h : Keep ⟨M.H, M.nx, lw⟩ M1) (hf : Fresh M1) (hp : V.plainL [x.toV] = false) (hq : Q (V.toX x.toV) M1.H) : Ret (finD P t m ih M.nx (.v .undef) [(.tmp k, x)] M1) M Q := by
  rw [finD_u, outD_1, hp]
  exact Ret.val h hf rfl rfl ⟨fun e => by simp at e, fun _ => hq⟩
def Row (n : Nat) (H : Hp) (v : V) (cs : List V) : Prop := (v = .nils ∧ cs = []) ∨ ∃ id off c b, v = .sl id off cs.length c ∧ id < n ∧ lookC H id = some b ∧ ∀ i (h : i < cs.length), b.cells[off + i]? = some cs[i]
theorem Row.len {n : Nat} {H : Hp} {v : V} {cs : List V} (h : Row n H v cs) : vLenS (.v v) K = K (.i .i64 cs.length) := by
  rcases h with ⟨rfl, rfl⟩ | ⟨id, off, c, b, rfl, -⟩ <;> rfl
theorem Row.get {n : Nat} {H : Hp} {v : V} {cs : List V} (h : Row n H v cs) {i : Nat} (hi : i < cs.length) : ∃ id o, (∀ K : X → CX, vIndexAddr 1 (.v v) (.i .i64 i) K = K (.v (.ptr id o))) ∧ id < n ∧ idV v = some id ∧ ∀ (M : Mm), Vx.look M.H id = Vx.look H id → cs[i].one = true → ∀ K : X → CX, vLoad1 (.v (.ptr id o)) M K = K (V.toX cs[i]) := by
  rcases h with ⟨rfl, rfl⟩ | ⟨id, off, c, b, rfl, hid, hb, hc⟩
  · simp at hi
  · refine ⟨id, off + i, fun K => ?_, hid, rfl, fun M hM h1 K => ?_⟩
    · rw [vIndexAddr_s, if_pos ⟨by omega, by omega⟩]
      simp
    · rw [vLoad1_p, show lookC M.H id = some b from by rw [lookC_congr hM]; exact hb]
      simp only [oC_some, hc i hi, h1, if_true]
theorem Row.keep {v : V} {cs : List V} (h : Row M.nx M.H v cs) (hk : Keep M M1) : Row M1.nx M1.H v cs := by
  rcases h with h | ⟨id, off, c, b, h1, h2, h3, h4⟩
  · exact .inl h
  · exact .inr ⟨id, off, c, b, h1, Nat.lt_of_lt_of_le h2 hk.nx, by rw [hk.lookC h2]; exact h3, h4⟩
theorem one_int (k : IntKind) (t : T) : V.one (.int k t) = true := rfl
theorem one_bool (t : T) : V.one (.bool t) = true := rfl
theorem one_str (t : T) : V.one (.str t) = true := rfl
theorem one_sl (i o n : Nat) (c : Cap) : V.one (.sl i o n c) = true := rfl
theorem one_nils : V.one .nils = true := rfl
theorem one_ptr (i o : Nat) : V.one (.ptr i o) = true := rfl
theorem Row.one {n : Nat} {H : Hp} {v : V} {cs : List V} (h : Row n H v cs) : v.one = true := by
  rcases h with ⟨rfl, -⟩ | ⟨id, off, c, b, rfl, -⟩ <;> rfl
theorem Row.toX {n : Nat} {H : Hp} {v : V} {cs : List V} (h : Row n H v cs) : V.toX v = .v v := by
  rcases h with ⟨rfl, -⟩ | ⟨id, off, c, b, rfl, -⟩ <;> rfl
theorem at_new {i lw : Nat} {b : Blk} {H : Hp} (h : Keep ⟨(i, b) :: H, i + 1, lw⟩ M1) (hb : b.mp = false) : lookC M1.H i = some b := by
  rw [h.lookC (show i < i + 1 by omega)]
  exact lookC_eq' H hb
theorem Row.new {v : V} {cs : List V} {b : Blk} (h : Row M.nx M.H v cs) : Row (M.nx + 1) ((M.nx, b) :: M.H) v cs := by
  rcases h with h | ⟨id, off, c, b', h1, h2, h3, h4⟩
  · exact .inl h
  · exact .inr ⟨id, off, c, b', h1, by omega, by rw [lookC_ne _ (by omega)]; exact h3, h4⟩
end
end Go.Proofs.Ytehbfajmileefaa.Px
namespace Go.Proofs.Ytehbfajmileefaa.Px
open Go.RowKit Go.Proofs.Ytehbfajmileefaa.Vx Go.Proofs.Ytehbfajmileefaa.Fx
set_option linter.unusedVariables false
set_option linter.unusedSimpArgs false
section
variable {P : Program} {K : X → CX} {KM : X → Mm → CX} {M M1 M2 : Mm} {cl : Cl}
theorem nB_v {v : V} (h : v ≠ .bad) : nB (.v v) = some v := by cases v <;> first | rfl | exact absurd rfl h
theorem nB_i (k : IntKind) (n : Int) : nB (.i k n) = some (.int k (.int n)) := rfl
theorem nB_b (b : Bool) : nB (.b b) = some (.bool (.bool b)) := rfl
theorem Row.ok {n : Nat} {H : Hp} {v : V} {cs : List V} (h : Row n H v cs) : v ≠ .bad := by
  rcases h with ⟨rfl, -⟩ | ⟨id, off, c, b, rfl, -⟩ <;> simp
theorem natLit_c (k : IntKind) (n : Nat) : natLit (.int k (.int (n : Int))) = some n := rfl
structure One (P : Program) (t e w : Nat) : Prop where
  hu : P.underlying t = some (.slice e)
  hi : ((P.info? e).map fun i => (i.size, i.bytes, i.zero.map fun z => z.cells.size)) = some (1, w, some 1)
theorem One.info {t e w : Nat} (h : One P t e w) : ∃ i zr, P.info? e = some i ∧ i.size = 1 ∧ i.bytes = w ∧ i.zero = some zr ∧ zr.cells.size = 1 := by
  have hi := h.hi
  cases hh : P.info? e with
  | none => rw [hh] at hi; simp at hi
  | some i =>
    rw [hh] at hi
    simp at hi
    obtain ⟨h1, h2, zr, h3, h4⟩ := hi
    exact ⟨i, zr, rfl, h1, h2, h3, h4⟩
theorem row_read {id off : Nat} {b : Blk} {cs : List V} (hc : ∀ i (h : i < cs.length), b.cells[off + i]? = some cs[i]) : (cs ≠ [] → off + cs.length ≤ b.cells.length) ∧ (off + cs.length ≤ b.cells.length → (b.cells.drop off).take cs.length = cs) := by
  refine ⟨fun hne => ?_, fun hle => ?_⟩
  · have hp : 0 < cs.length := List.length_pos_iff.2 hne
    have := hc (cs.length - 1) (by omega)
    have := (List.getElem?_eq_some_iff.1 this).1
    omega
  · apply List.ext_getElem
    · simp; omega
    · intro i h1 h2
      have := hc i h2
      simp only [List.getElem_take, List.getElem_drop]
      have h3 := (List.getElem?_eq_some_iff.1 this).2
      exact h3
theorem Row.src {n : Nat} {H : Hp} {v : V} {cs : List V} (h : Row n H v cs) (hne : cs ≠ []) (t : TypeId) : srcV P t t 1 H v = some (cs, cs.length) := by
  rcases h with ⟨rfl, rfl⟩ | ⟨id, off, c, b, rfl, hid, hb, hc⟩
  · exact absurd rfl hne
  · obtain ⟨h1, h2⟩ := row_read (id := id) hc
    simp only [srcV, readRow, hb, if_true, Option.bind_some, Nat.mul_one]
    rw [if_neg (by intro h; exact hne (List.length_eq_zero_iff.1 h)), if_pos (h1 hne), h2 (h1 hne)]
    rfl
theorem app_full {t e w id off : Nat} {b : Blk} {v : V} {cs : List V} (ht : One P t e w) (hb : lookC M.H id = some b) (hr : Row M.nx M.H v cs) (hne : cs ≠ []) (h1 : allOne cs = true) (hw : cs.length * w ≤ maxBytes) (hl : cs.length ≤ maxBytes) (ho : off ≤ b.cells.length) :
    vApp P t t (.v (.sl id off 0 (.is 0))) (.v v) M KM = KM (.v (.sl M.nx 0 cs.length (.rest 0))) ⟨(M.nx, ⟨e, 1, cs, true, false⟩) :: M.H, M.nx + 1, M.lw⟩ := by
  obtain ⟨i, zr, e1, e2, e3, e4, e5⟩ := ht.info
  have hm : cs.length ≠ 0 := by intro h; exact hne (List.length_eq_zero_iff.1 h)
  have e6 : zr.cells.size = 1 := e5
  have hz : (Value.cells zr).size = 1 := e5
  simp only [vApp, nB_v (show V.sl id off 0 (.is 0) ≠ .bad by simp), nB_v hr.ok, Option.bind_some]
  simp only [appendV, ht.hu, e1, e2, e4, Option.bind_some, hr.src hne t]
  rw [if_neg hm]
  rw [if_neg (by simp [h1, e5])]
  simp only [hb, Option.bind_some]
  rw [if_neg (by omega), if_pos ⟨by rw [Nat.zero_add, e3]; exact hw, by omega, by omega⟩]
  simp [oM, toX_sl]
theorem app_nil {t e w : Nat} {v : V} {cs : List V} (ht : One P t e w) (hr : Row M.nx M.H v cs) (hne : cs ≠ []) (h1 : allOne cs = true) (hw : cs.length * w ≤ maxBytes) (hl : cs.length ≤ maxBytes) :
    vApp P t t (.v .nils) (.v v) M KM = KM (.v (.sl M.nx 0 cs.length (.rest 0))) ⟨(M.nx, ⟨e, 1, cs, true, false⟩) :: M.H, M.nx + 1, M.lw⟩ := by
  obtain ⟨i, zr, e1, e2, e3, e4, e5⟩ := ht.info
  have hm : cs.length ≠ 0 := by intro h; exact hne (List.length_eq_zero_iff.1 h)
  simp only [vApp, nB_v (show V.nils ≠ .bad by simp), nB_v hr.ok, Option.bind_some]
  simp only [appendV, ht.hu, e1, e2, e4, Option.bind_some, hr.src hne t]
  rw [if_neg hm]
  rw [if_neg (by simp [h1, e5])]
  rw [if_pos ⟨by rw [e3]; exact hw, hl⟩]
  simp [oM, toX_sl]
theorem clip_rest {t e w id : Nat} {cs : List V} {n : Nat} {ty sz : Nat} (ht : One P t e w) (hb : lookC M.H id = some ⟨ty, sz, cs, true, false⟩) (hn : n * sz ≤ cs.length) (hM : ∀ l, oR l M false KM = oR l M false KM) :
    vSlice P t (.v (.sl id 0 n (.rest 0))) none (some (.i .i64 (n : Int))) (some (.i .i64 (n : Int))) M KM = KM (.v (.sl id 0 n (.is n))) M := by
  obtain ⟨i, zr, e1, e2, e3, e4, e5⟩ := ht.info
  have hz : szOf P e = some 1 := by simp [szOf, e1, e2]
  have hle : (Nat.ble ((0 + n) * sz) cs.length) = true := by simpa using hn
  simp only [vSlice, nB_v (show V.sl id 0 n (.rest 0) ≠ .bad by simp), nBo, nB_i, Option.bind_some, Option.map_some]
  simp only [sliceV, ht.hu, hz, hb, Option.bind_some, hle, Bool.not_true, Bool.or_self, Bool.false_eq_true, if_false, boundV, natLit_c, Nat.le_refl, if_true, Nat.zero_le, Option.map_some, Nat.zero_mul, Nat.add_zero, Nat.sub_zero]
  simp [oR, toX_sl]
theorem Pst_of {y : X} (h : y.toV ≠ .bad) : Pst true false y M M1 none := ⟨fun _ => h, fun e => by simp at e, trivial⟩
theorem Pst_m {y : X} (h : y.toV ≠ .bad) (hn : M.nx ≤ M1.nx) : Pst true true y M M1 none := ⟨fun _ => h, fun _ => hn, trivial⟩
theorem Pst_u {y : X} (hn : M.nx ≤ M1.nx) : Pst false true y M M1 none := ⟨fun e => by simp at e, fun _ => hn, trivial⟩
theorem Keep.x (h : Keep M M1) : KeepX none M M1 := ⟨fun j hj _ => h.old j hj, fun id b hb hr => by
  by_cases hi : id < M.nx
  · rw [← h.old id hi]; exact hb
  · have := h.ro id b (by omega) hb
    rw [this] at hr; simp at hr⟩
theorem Pst_k {y : X} (h : y.toV ≠ .bad) (hk : Keep M M1) : Pst true true y M M1 (some (none, [])) := ⟨fun _ => h, fun _ => hk.nx, hk.x, fun a ha => by simp at ha⟩
theorem Old_p {n id o : Nat} (h : id < n) : Old n (.v (.ptr id o)) := fun i hi => by
  have : some id = some i := hi
  simp at this; omega
theorem updF_of {i : Nat} {f : Blk → Option Blk} {b c : Blk} : ∀ {H : Hp}, Vx.look H i = some b → f b = some c → updF H i f = some (upd H i c)
  | [], h, _ => by simp [Vx.look] at h
  | (j, b') :: H, h, hf => by
    have e : updF ((j, b') :: H) i f = (Bool.rec (motive := fun _ => Option Hp) (Option.rec (motive := fun _ => Option Hp) none (fun m => some ((j, b') :: m)) (updF H i f)) (Option.rec (motive := fun _ => Option Hp) none (fun c => some ((j, c) :: H)) (f b')) (Nat.beq j i)) := rfl
    rw [e]
    cases hb : Nat.beq j i with
    | true =>
      simp only [Vx.look, hb, if_true] at h
      simp at h
      subst h
      rw [hf]; simp [upd, hb]
    | false =>
      simp only [Vx.look, hb] at h
      rw [updF_of (H := H) (by simpa using h) hf]; simp [upd, hb]
theorem stL_of {off : Nat} {vs : List V} {b : Blk} (hm : b.mp = false) (hr : b.ro = false) (hl : off + vs.length ≤ b.cells.length) : stL off vs b = some { b with cells := put1 b.cells off vs } := by
  obtain ⟨ty, sz, cells, sp, ro⟩ := b
  simp only at hr hl
  subst hr
  have e : setL cells off vs = some (put1 cells off vs) := by rw [setL_eq, if_pos hl]
  cases sz with
  | zero =>
    cases sp with
    | true => exact absurd hm (by simp [Blk.mp])
    | false => simp only [stL, e]; rfl
  | succ n => simp [stL, e]
theorem stB_of {off : Nat} {v : V} {b : Blk} (hm : b.mp = false) (hr : b.ro = false) (hl : off < b.cells.length) : stB off v b = some { b with cells := put1 b.cells off [v] } := by
  obtain ⟨ty, sz, cells, sp, ro⟩ := b
  simp only at hr hl
  subst hr
  have e : setN cells off v = some (put1 cells off [v]) := by rw [setN_eq, if_pos hl]
  cases sz with
  | zero =>
    cases sp with
    | true => exact absurd hm (by simp [Blk.mp])
    | false => simp only [stB, e]; rfl
  | succ n => simp [stB, e]
theorem storeN_of {n id off : Nat} {l : List V} {b : Blk} (hb : lookC M.H id = some b) (hr : b.ro = false) (hn : l.length = n) (h1 : allOne l = true) (hl : off + l.length ≤ b.cells.length) :
    ∃ lw, ∀ KM : X → Mm → CX, vStoreN n (.v (.ptr id off)) (.v (.agg l)) M KM = KM (.v .undef) ⟨upd M.H id { b with cells := put1 b.cells off l }, M.nx, lw⟩ := by
  obtain ⟨h2, h3⟩ := lookC_look hb
  refine ⟨lwN (.v (.agg l)) id M.lw, fun KM => ?_⟩
  simp only [vStoreN, hn, h1, if_true, updF_of h2 (stL_of h3 hr hl), oC_some]
theorem store1_of {id off : Nat} {x : X} {b : Blk} (hb : lookC M.H id = some b) (hr : b.ro = false) (h1 : x.toV.one = true) (hl : off < b.cells.length) :
    ∃ lw, ∀ KM : X → Mm → CX, vStore1 (.v (.ptr id off)) x M KM = KM (.v .undef) ⟨upd M.H id { b with cells := put1 b.cells off [x.toV] }, M.nx, lw⟩ := by
  obtain ⟨h2, h3⟩ := lookC_look hb
  refine ⟨lwN x id M.lw, fun KM => ?_⟩
  simp only [vStore1, h1, if_true, updF_of h2 (stB_of h3 hr hl), oC_some]
theorem Keep.upd {M0 : Mm} (h : Keep M0 M) {id : Nat} {b : Blk} {cs : List V} (hb : Vx.lookC M.H id = some b) (hid : M0.nx ≤ id) (hr : b.ro = false) (lw : Nat) : Keep M0 ⟨Vx.upd M.H id { b with cells := cs }, M.nx, lw⟩ := by
  obtain ⟨h2, h3⟩ := lookC_look hb
  refine ⟨h.nx, fun i hi => ?_, fun i c hi hc => ?_⟩
  · show Vx.look (Vx.upd M.H id _) i = _
    rw [look_upd h2, if_neg (by omega)]; exact h.old i hi
  · have hc : Vx.look (Vx.upd M.H id _) i = some c := hc
    rw [look_upd h2] at hc
    split at hc
    · simp at hc; subst hc; exact hr
    · exact h.ro i c hi hc
theorem Fresh.upd (h : Fresh M) (id : Nat) (c : Blk) (lw : Nat) : Fresh ⟨Vx.upd M.H id c, M.nx, lw⟩ := Srt.upd h id c
theorem upd_at {id : Nat} {b : Blk} {cs : List V} (hb : lookC M.H id = some b) : lookC (Vx.upd M.H id { b with cells := cs }) id = some { b with cells := cs } := by
  obtain ⟨h2, h3⟩ := lookC_look hb
  unfold lookC
  rw [look_upd h2, if_pos rfl]
  simp only [Blk.mp_cells, h3]
theorem upd_ne {id j : Nat} {b c : Blk} (hb : lookC M.H id = some b) (hj : id ≠ j) : lookC (Vx.upd M.H id c) j = lookC M.H j := by
  obtain ⟨h2, h3⟩ := lookC_look hb
  exact lookC_congr (by rw [look_upd h2, if_neg hj])
theorem Row.upd {n id : Nat} {b c : Blk} {v : V} {cs : List V} (h : Row n M.H v cs) (hb : lookC M.H id = some b) (hid : idV v ≠ some id) : Row n (Vx.upd M.H id c) v cs := by
  rcases h with h | ⟨i, off, k, b', h1, h2, h3, h4⟩
  · exact .inl h
  · refine .inr ⟨i, off, k, b', h1, h2, ?_, h4⟩
    rw [upd_ne hb (fun e => hid (by rw [h1, e]; rfl))]; exact h3
theorem KeepX.upd {id : Nat} {b : Blk} {cs : List V} (hb : lookC M.H id = some b) (hr : b.ro = false) (lw : Nat) : KeepX (some id) M ⟨Vx.upd M.H id { b with cells := cs }, M.nx, lw⟩ := by
  obtain ⟨h2, h3⟩ := lookC_look hb
  refine ⟨fun j hj hne => ?_, fun i c hc hro => ?_⟩
  · show Vx.look (Vx.upd M.H id _) j = _
    rw [look_upd h2, if_neg (fun e => hne (by rw [e]))]
  · have hc : Vx.look (Vx.upd M.H id _) i = some c := hc
    rw [look_upd h2] at hc
    split at hc
    · simp at hc; subst hc; rw [show ({ b with cells := cs } : Blk).ro = b.ro from rfl, hr] at hro; simp at hro
    · exact hc
end
end Go.Proofs.Ytehbfajmileefaa.Px
namespace Go.Proofs.Ytehbfajmileefaa.Vx
open Go.RowKit Go.Proofs.Ytehbfajmileefaa.Fx
set_option linter.unusedVariables false
set_option linter.unusedSimpArgs false
def rhoW (w : World) : Rho := fun i => if i < w.heap.size then some (i, 0) else none
def has (σ : Env) (k : Nat) (L : List Value) : Prop := ∀ i (h : i < L.length), σ.v (2 * (k + i)) = L[i] ∧ σ.v (2 * (k + i) + 1) = L[i]
theorem has_app {σ : Env} {k : Nat} {A B : List Value} (h : has σ k (A ++ B)) : has σ k A ∧ has σ (k + A.length) B := by
  refine ⟨fun i hi => ?_, fun i hi => ?_⟩
  · have := h i (by simp; omega)
    rw [List.getElem_append_left hi] at this
    exact this
  · have := h (A.length + i) (by simp; omega)
    rw [List.getElem_append_right (by omega)] at this
    rw [Nat.add_assoc]
    simpa using this
theorem one_ex {x : Value} (h : x.oneCell' = true) (ρ : Rho) (k : Nat) : ∃ (L : List Value) (v : V), ∀ σ, has σ k L → den σ ρ v = some x :=
  ⟨[x], .val (2 * k), fun σ hs => by
    have := (hs 0 (by simp)).1
    simp only [Nat.add_zero, List.getElem_cons_zero] at this
    have e : Nat.beq (2 * k % 2) 1 = false := by rw [Nat.mul_mod_right]; rfl
    simp only [den, this, h, empAt, e, cond_false, and_self, if_true]⟩
theorem emp_ex {x : Value} (h : empS x = true) (ρ : Rho) (k : Nat) : ∀ σ, has σ k [x] → den σ ρ (.val (2 * k + 1)) = some x := fun σ hs => by
  have := (hs 0 (by simp)).2
  simp only [Nat.add_zero, List.getElem_cons_zero] at this
  have e : Nat.beq ((2 * k + 1) % 2) 1 = true := by rw [Nat.mul_add_mod]; rfl
  have h1 : x.oneCell' = true := by cases x <;> first | rfl | simp [empS] at h
  simp only [den, this, h1, empAt, e, cond_true, h, and_self, if_true]
mutual
theorem enc_ex (ρ : Rho) : ∀ (x : Value) (k : Nat), ∃ (L : List Value) (v : V), ∀ σ, has σ k L → den σ ρ v = some x
  | .agg l, k => by
    obtain ⟨L, vs, h⟩ := encL_ex ρ l.toList k
    exact ⟨L, .agg vs, fun σ hs => by simp [den, h σ hs]⟩
  | .tuple l, k => by
    obtain ⟨L, vs, h⟩ := encL_ex ρ l.toList k
    exact ⟨L, .tup vs, fun σ hs => by simp [den, h σ hs]⟩
  | .bool _, k => one_ex rfl ρ k
  | .int _ _, k => one_ex rfl ρ k
  | .float _ _, k => one_ex rfl ρ k
  | .complex _ _ _, k => one_ex rfl ρ k
  | .string _, k => one_ex rfl ρ k
  | .pointer _, k => one_ex rfl ρ k
  | .slice _ _ _, k => one_ex rfl ρ k
  | .map _, k => one_ex rfl ρ k
  | .chan _, k => one_ex rfl ρ k
  | .func _ _ _, k => one_ex rfl ρ k
  | .nilFunc, k => one_ex rfl ρ k
  | .iface _ _, k => one_ex rfl ρ k
  | .nilIface, k => one_ex rfl ρ k
termination_by x _ => SizeOf.sizeOf x
decreasing_by all_goals (cases l; simp_wf; omega)
theorem encL_ex (ρ : Rho) : ∀ (l : List Value) (k : Nat), ∃ (L : List Value) (vs : List V), ∀ σ, has σ k L → denL σ ρ vs = some l
  | [], k => ⟨[], [], fun σ _ => rfl⟩
  | x :: l, k => by
    obtain ⟨L, v, h⟩ := enc_ex ρ x k
    obtain ⟨L2, vs, h2⟩ := encL_ex ρ l (k + L.length)
    exact ⟨L ++ L2, v :: vs, fun σ hs => by rw [denL_cons]; exact ⟨x, l, h σ (has_app hs).1, h2 σ (has_app hs).2, rfl⟩⟩
termination_by l _ => SizeOf.sizeOf l
decreasing_by all_goals (simp_wf; omega)
end
def scV (n : Nat) : Value → Option V
  | .int k i => some (.int k (.int i))
  | .bool b => some (.bool (.bool b))
  | .string s => some (.str (.str s))
  | .pointer (some ⟨b, o, none⟩) => if b < n then some (.ptr b o) else none
  | .pointer none => some .nilp
  | .slice none 0 0 => some .nils
  | .slice (some ⟨b, o, none⟩) len cap => if b < n ∧ cap ≠ 0 then some (.sl b o len (.is cap)) else none
  | _ => none
theorem scV_den {w : World} {x : Value} {v : V} (h : scV w.heap.size x = some v) (σ : Env) : den σ (rhoW w) v = some x := by
  unfold scV at h
  split at h
  · simp at h; subst h; simp [den, T.i]
  · simp at h; subst h; simp [den, T.b]
  · simp at h; subst h; simp [den, T.s]
  · split at h <;> simp at h
    rename_i hb
    subst h; simp [den, rhoW, hb]
  · simp at h; subst h; simp [den]
  · simp at h; subst h; simp [den]
  · split at h <;> simp at h
    rename_i hb
    subst h; simp [den, rhoW, hb, Cap.cap]
  · simp at h
theorem cells_ex (w : World) : ∀ (l : List Value) (k : Nat), ∃ (L : List Value) (vs : List V), (∀ (i : Nat) (x : Value) (v : V), l[i]? = some x → scV w.heap.size x = some v → vs[i]? = some v) ∧
    (∀ (i : Nat) (x : Value), l[i]? = some x → scV w.heap.size x = none → empS x = true → ∃ k, Nat.beq (k % 2) 1 = true ∧ vs[i]? = some (.val k)) ∧ ∀ σ, has σ k L → denL σ (rhoW w) vs = some l
  | [], k => ⟨[], [], fun i x v h => by simp at h, fun i x h => by simp at h, fun σ _ => rfl⟩
  | x :: l, k => by
    cases hx : scV w.heap.size x with
    | some v =>
      obtain ⟨L, vs, h1, h3, h2⟩ := cells_ex w l k
      refine ⟨L, v :: vs, fun i y u hy hu => ?_, fun i y hy hu he => ?_, fun σ hs => by rw [denL_cons]; exact ⟨x, l, scV_den hx σ, h2 σ hs, rfl⟩⟩
      · cases i with
        | zero => simp at hy; subst hy; rw [hx] at hu; simp at hu; subst hu; simp
        | succ i => simp at hy ⊢; exact h1 i y u hy hu
      · cases i with
        | zero => simp at hy; subst hy; rw [hx] at hu; simp at hu
        | succ i => exact h3 i y (by simpa using hy) hu he
    | none =>
      cases he : empS x with
      | true =>
        obtain ⟨L2, vs, h1, h3, h2⟩ := cells_ex w l (k + [x].length)
        refine ⟨[x] ++ L2, .val (2 * k + 1) :: vs, fun i y u hy hu => ?_, fun i y hy hu he => ?_, fun σ hs => by rw [denL_cons]; exact ⟨x, l, emp_ex he _ _ σ (has_app hs).1, h2 σ (has_app hs).2, rfl⟩⟩
        · cases i with
          | zero => simp at hy; subst hy; rw [hx] at hu; simp at hu
          | succ i => simp at hy ⊢; exact h1 i y u hy hu
        · cases i with
          | zero => exact ⟨2 * k + 1, by rw [Nat.mul_add_mod]; rfl, by simp⟩
          | succ i => exact h3 i y (by simpa using hy) hu he
      | false =>
        obtain ⟨L, v, h⟩ := enc_ex (rhoW w) x k
        obtain ⟨L2, vs, h1, h3, h2⟩ := cells_ex w l (k + L.length)
        refine ⟨L ++ L2, v :: vs, fun i y u hy hu => ?_, fun i y hy hu he' => ?_, fun σ hs => by rw [denL_cons]; exact ⟨x, l, h σ (has_app hs).1, h2 σ (has_app hs).2, rfl⟩⟩
        · cases i with
          | zero => simp at hy; subst hy; rw [hx] at hu; simp at hu
          | succ i => simp at hy ⊢; exact h1 i y u hy hu
        · cases i with
          | zero => simp at hy; subst hy; rw [he] at he'; simp at he'
          | succ i => exact h3 i y (by simpa using hy) hu he'
theorem heap_ex (w : World) : ∀ (n k : Nat), n ≤ w.heap.size → ∃ (L : List Value) (H : Hp), Srt H n ∧
    (∀ (b o : Nat) (x : Value) (v : V), b < n → w.cell? ⟨b, o, none⟩ = some x → scV w.heap.size x = some v → ∃ blk, lookC H b = some blk ∧ blk.cells[o]? = some v) ∧ (∀ (b o : Nat) (x : Value), b < n → w.cell? ⟨b, o, none⟩ = some x → scV w.heap.size x = none → empS x = true → ∃ blk k, lookC H b = some blk ∧ Nat.beq (k % 2) 1 = true ∧ blk.cells[o]? = some (.val k)) ∧ (∀ b, b < n → (w.shape? b).isSome = true → (lookC H b).isSome = true) ∧
    ∀ σ, has σ k L → ∀ i b, look H i = some b → b.ro = true ∧ b.spare = false ∧ b.mp = false ∧ i < n ∧ ∃ xs fz, denL σ (rhoW w) b.cells = some xs ∧ w.heap[i]? = some (.cells xs.toArray b.ty fz)
  | 0, k, _ => ⟨[], [], Srt.nil, fun b o x v h => by omega, fun b o x h => by omega, fun b h => by omega, fun σ _ i b h => by simp [look] at h⟩
  | n + 1, k, hn => by
    obtain ⟨L, H, h1, h2, h5, h4, h3⟩ := heap_ex w n k (by omega)
    have hlt : n < w.heap.size := by omega
    cases ho : w.heap[n] with
    | cells c ty fz =>
      obtain ⟨L2, vs, g1, g3, g2⟩ := cells_ex w c.toList (k + L.length)
      refine ⟨L ++ L2, (n, ⟨ty, 1, vs, false, true⟩) :: H, Srt.cons h1 _, fun b o x v hb hx hv => ?_, fun b o x hb hx hv he => ?_, fun b hb hs => ?_, fun σ hs i b hb => ?_⟩
      · by_cases e : b = n
        · subst e
          refine ⟨⟨ty, 1, vs, false, true⟩, by simp [lookC, look_cons, Blk.mp], g1 o x v ?_ hv⟩
          simpa [World.cell?, Array.getElem?_eq_getElem hlt, ho] using hx
        · obtain ⟨blk, k1, k2⟩ := h2 b o x v (by omega) hx hv
          refine ⟨blk, ?_, k2⟩
          simp only [lookC] at k1 ⊢
          rw [look_cons, if_neg (Ne.symm e)]; exact k1
      · by_cases e : b = n
        · subst e
          obtain ⟨k, k1, k2⟩ := g3 o x (by simpa [World.cell?, Array.getElem?_eq_getElem hlt, ho] using hx) hv he
          exact ⟨⟨ty, 1, vs, false, true⟩, k, by simp [lookC, look_cons, Blk.mp], k1, k2⟩
        · obtain ⟨blk, k, k1, k2⟩ := h5 b o x (by omega) hx hv he
          refine ⟨blk, k, ?_, k2⟩
          simp only [lookC] at k1 ⊢
          rw [look_cons, if_neg (Ne.symm e)]; exact k1
      · by_cases e : b = n
        · subst e; simp [lookC, look_cons, Blk.mp]
        · have := h4 b (by omega) hs
          simp only [lookC] at this ⊢
          rw [look_cons, if_neg (Ne.symm e)]; exact this
      · rw [look_cons] at hb
        split at hb
        · rename_i e
          subst e
          simp at hb
          subst hb
          exact ⟨rfl, rfl, rfl, Nat.lt_succ_self _, c.toList, fz, g2 σ (has_app hs).2, by rw [Array.getElem?_eq_getElem hlt, ho]⟩
        · obtain ⟨k1, k2, k3, k4, k5⟩ := h3 σ (has_app hs).1 i b hb
          exact ⟨k1, k2, k3, by omega, k5⟩
    | _ =>
      refine ⟨L, H, h1.le (Nat.le_succ _), fun b o x v hb hx hv => ?_, fun b o x hb hx hv he => ?_, fun b hb hs => ?_, fun σ hs i b hb => ?_⟩
      · by_cases e : b = n
        · subst e
          simp [World.cell?, Array.getElem?_eq_getElem hlt, ho] at hx
        · exact h2 b o x v (by omega) hx hv
      · by_cases e : b = n
        · subst e
          simp [World.cell?, Array.getElem?_eq_getElem hlt, ho] at hx
        · exact h5 b o x (by omega) hx hv he
      · by_cases e : b = n
        · subst e
          simp [World.shape?, Array.getElem?_eq_getElem hlt, ho] at hs
        · exact h4 b (by omega) hs
      · obtain ⟨k1, k2, k3, k4, k5⟩ := h3 σ hs i b hb
        exact ⟨k1, k2, k3, by omega, k5⟩
theorem entryE (w : World) : ∃ σ H, M σ (rhoW w) (· < w.heap.size) H w.heap.size w ∧ Srt H w.heap.size ∧ (∀ (b o : Nat) (x : Value) (v : V), w.cell? ⟨b, o, none⟩ = some x → scV w.heap.size x = some v → ∃ blk, lookC H b = some blk ∧ blk.cells[o]? = some v) ∧ (∀ (b o : Nat) (x : Value), w.cell? ⟨b, o, none⟩ = some x → scV w.heap.size x = none → empS x = true → ∃ blk k, lookC H b = some blk ∧ Nat.beq (k % 2) 1 = true ∧ blk.cells[o]? = some (.val k)) ∧ ∀ b, (w.shape? b).isSome = true → b < w.heap.size ∧ (lookC H b).isSome = true := by
  obtain ⟨L, H, h1, h2, h5, h4, h3⟩ := heap_ex w w.heap.size 0 (Nat.le_refl _)
  have hσ : ∃ σ : Env, has σ 0 L := ⟨{ i := fun _ => 0, b := fun _ => false, s := fun _ => default, v := fun i => L.getD (i / 2) undef, fi := fun _ _ => 0, fb := fun _ _ => false }, fun i hi => by
    have e1 : 2 * (0 + i) / 2 = i := by omega
    have e2 : (2 * (0 + i) + 1) / 2 = i := by omega
    simp only [e1, e2, List.getD_eq_getElem?_getD, List.getElem?_eq_getElem hi, Option.getD_some, and_self]⟩
  obtain ⟨σ, hs⟩ := hσ
  refine ⟨σ, H, ⟨fun r hr => hr, fun i hi => by unfold rhoW; rw [if_neg (by omega)], fun i b hb => ?_, fun i j r c d hi hj hri hrj => ?_⟩, h1, fun b o x v hx hv => h2 b o x v ?_ hx hv, fun b o x hx hv he => h5 b o x ?_ hx hv he, fun b hs => ?_⟩
  · obtain ⟨k1, k2, k3, k4, xs, fz, k5, k6⟩ := h3 σ hs i b hb
    refine ⟨i, 0, xs, [], by simp [rhoW, k4], fun e => by rw [k1] at e; simp at e, k5, ⟨fz, fun e => by rw [k1] at e; simp at e, by rw [Blk.obj_cells k3, List.append_nil]; exact k6⟩, fun _ => rfl, fun _ e => by rw [k2] at e; simp at e, fun e => by rw [k3] at e; simp at e⟩
  · unfold rhoW at hri hrj
    split at hri <;> simp at hri
    split at hrj <;> simp at hrj
    omega
  · unfold World.cell? at hx
    split at hx
    · rename_i h9
      exact (Array.getElem?_eq_some_iff.1 h9).1
    · simp at hx
  · unfold World.cell? at hx
    split at hx
    · rename_i h9
      exact (Array.getElem?_eq_some_iff.1 h9).1
    · simp at hx
  · have hlt : b < w.heap.size := by
      unfold World.shape? at hs
      split at hs
      · rename_i h9
        exact (Array.getElem?_eq_some_iff.1 h9).1
      · simp at hs
    exact ⟨hlt, h4 b hlt hs⟩
theorem entry (w : World) : ∃ σ H, M σ (rhoW w) (· < w.heap.size) H w.heap.size w ∧ Srt H w.heap.size ∧ (∀ (b o : Nat) (x : Value) (v : V), w.cell? ⟨b, o, none⟩ = some x → scV w.heap.size x = some v → ∃ blk, lookC H b = some blk ∧ blk.cells[o]? = some v) ∧ ∀ b, (w.shape? b).isSome = true → b < w.heap.size ∧ (lookC H b).isSome = true := by
  obtain ⟨σ, H, h1, h2, h3, -, h4⟩ := entryE w
  exact ⟨σ, H, h1, h2, h3, h4⟩
end Go.Proofs.Ytehbfajmileefaa.Vx
namespace Go.Proofs.Ytehbfajmileefaa.Px
open Go.RowKit Go.Proofs.Ytehbfajmileefaa.Vx Go.Proofs.Ytehbfajmileefaa.Fx
set_option linter.unusedVariables false
set_option linter.unusedSimpArgs false
def SlAt (w : World) (q : Option Addr) (len cap : Nat) : Prop := (q = none ∧ len = 0 ∧ cap = 0) ∨ ∃ b o, q = some ⟨b, o, none⟩ ∧ (w.shape? b).isSome = true
theorem slAt_of {P : Program} {w : World} {r : Reach} {base : Nat} {t e : TypeId} {q : Option Addr} {len cap : Nat} (hu : P.underlying t = some (.slice e)) (h : Cell.okWide P w r base t (.slice q len cap)) : SlAt w q len cap := by
  unfold Cell.okWide at h
  rw [hu] at h
  simp only [Cell.ok, hu] at h
  cases q with
  | none =>
    left
    split at h <;> simp_all
  | some a =>
    right
    have h : w.has P r base a e cap := by
      split at h <;> simp_all
    obtain ⟨-, h1, row, cells, h2, -⟩ := h
    obtain ⟨b, o, s⟩ := a
    simp only at h1
    subst h1
    exact ⟨b, o, rfl, by simp only at h2; rw [h2]; rfl⟩
theorem slAt_val {P : Program} {w : World} {r : Reach} {base : Nat} {t e : TypeId} {q : Option Addr} {len cap : Nat} (hu : P.underlying t = some (.slice e)) (h : Value.okWide P w r base t (.slice q len cap)) : SlAt w q len cap := by
  unfold Value.okWide at h
  rw [hu] at h
  exact slAt_of hu h
theorem Row.met {w : World} {H : Hp} (hE : ∀ (b o : Nat) (x : Value) (v : V), w.cell? ⟨b, o, none⟩ = some x → scV w.heap.size x = some v → ∃ blk, lookC H b = some blk ∧ blk.cells[o]? = some v) (hS : ∀ b, (w.shape? b).isSome = true → b < w.heap.size ∧ (lookC H b).isSome = true)
    {q : Option Addr} {cs : List V} {cap sb so : Nat} (hok : SlAt w q cs.length cap) (hq : 0 < cs.length → q = some ⟨sb, so, none⟩) (hc : ∀ i (h : i < cs.length), ∃ x, w.cell? ⟨sb, so + i, none⟩ = some x ∧ scV w.heap.size x = some cs[i]) :
    ∃ v, Row w.heap.size H v cs ∧ ∀ σ, den σ (rhoW w) v = some (.slice q cs.length cap) := by
  rcases hok with ⟨rfl, h1, rfl⟩ | ⟨b, o, rfl, h2⟩
  · refine ⟨.nils, .inl ⟨rfl, List.length_eq_zero_iff.1 h1⟩, fun σ => by rw [h1]; simp [den]⟩
  · obtain ⟨h3, h4⟩ := hS b h2
    obtain ⟨blk, hb⟩ := Option.isSome_iff_exists.1 h4
    refine ⟨.sl b o cs.length (.is cap), .inr ⟨b, o, .is cap, blk, rfl, h3, hb, fun i hi => ?_⟩, fun σ => by simp [den, rhoW, h3, Cap.cap]⟩
    have e := hq (by omega)
    simp at e
    obtain ⟨rfl, rfl⟩ := e
    obtain ⟨x, k1, k2⟩ := hc i hi
    obtain ⟨blk', k3, k4⟩ := hE _ _ _ _ k1 k2
    rw [hb] at k3
    simp at k3
    subst k3
    exact k4
end Go.Proofs.Ytehbfajmileefaa.Px
