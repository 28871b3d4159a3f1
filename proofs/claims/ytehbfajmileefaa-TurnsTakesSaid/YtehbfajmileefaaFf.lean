import Derived.Test.YtehbfajmileefaaFd
namespace Go.Proofs.Ytehbfajmileefaa.Fx
open Go.RowKit Go.Proofs.Ytehbfajmileefaa.Vx
set_option linter.unusedVariables false
set_option linter.unusedSimpArgs false
structure Srt (H : Hp) (nx : Nat) : Prop where
  lt : ∀ e ∈ H, e.1 < nx
  nd : (H.map (·.1)).Nodup
theorem memB_ok {i : Nat} : ∀ {H : Hp}, i ∈ H.map (·.1) → memB i H = true
  | (j, b) :: H, h => by
    simp only [List.map_cons, List.mem_cons] at h
    simp only [memB, Bool.or_eq_true]
    rcases h with h | h
    · exact .inl (by simpa using h)
    · exact .inr (memB_ok h)
theorem ndB_ok : ∀ {H : Hp}, ndB H = true → (H.map (·.1)).Nodup
  | [], _ => by simp
  | (j, b) :: H, h => by
    simp only [ndB, Bool.and_eq_true, Bool.not_eq_true'] at h
    simp only [List.map_cons, List.nodup_cons]
    exact ⟨fun hm => by rw [memB_ok hm] at h; simp at h, ndB_ok h.2⟩
theorem srtB_ok {H : Hp} {nx : Nat} (h : srtB H nx = true) : Srt H nx := by
  simp only [srtB, Bool.and_eq_true, List.all_eq_true, Nat.blt_eq] at h
  exact ⟨h.1, ndB_ok h.2⟩
theorem Srt.nil {nx : Nat} : Srt [] nx := ⟨by simp, by simp⟩
theorem Srt.cons {H : Hp} {nx : Nat} (h : Srt H nx) (b : Blk) : Srt ((nx, b) :: H) (nx + 1) :=
  ⟨fun e he => by
    simp only [List.mem_cons] at he
    rcases he with rfl | he
    · simp
    · have := h.lt e he; omega, by
    simp only [List.map_cons, List.nodup_cons]
    refine ⟨fun hm => ?_, h.nd⟩
    obtain ⟨e, he, h1⟩ := List.mem_map.1 hm
    have := h.lt e he
    omega⟩
theorem Srt.le {H : Hp} {nx nx' : Nat} (h : Srt H nx) (hl : nx ≤ nx') : Srt H nx' := ⟨fun e he => by have := h.lt e he; omega, h.nd⟩
theorem upd_ids (H : Hp) (i : Nat) (c : Blk) : (upd H i c).map (·.1) = H.map (·.1) := by
  induction H with
  | nil => rfl
  | cons e H ih =>
    obtain ⟨j, b⟩ := e
    unfold upd
    split <;> simp [ih]
theorem Srt.upd {H : Hp} {nx : Nat} (h : Srt H nx) (i : Nat) (c : Blk) : Srt (upd H i c) nx :=
  ⟨fun e he => by
    have : e.1 ∈ (Vx.upd H i c).map (·.1) := List.mem_map.2 ⟨e, he, rfl⟩
    rw [upd_ids] at this
    obtain ⟨e', he', h1⟩ := List.mem_map.1 this
    have := h.lt e' he'
    omega, by rw [upd_ids]; exact h.nd⟩
theorem del_sub (H : Hp) (i : Nat) : (del H i).Sublist H := by
  induction H with
  | nil => exact List.Sublist.slnil
  | cons e H ih =>
    obtain ⟨j, b⟩ := e
    unfold del
    split
    · exact ih.cons _
    · exact ih.cons_cons _
theorem Srt.sub {H H' : Hp} {nx : Nat} (h : Srt H nx) (hs : H'.Sublist H) : Srt H' nx := ⟨fun e he => h.lt e (hs.subset he), (hs.map _).nodup h.nd⟩
theorem Srt.del {H : Hp} {nx : Nat} (h : Srt H nx) (i : Nat) : Srt (del H i) nx := h.sub (del_sub H i)
theorem look_mem {H : Hp} {i : Nat} {b : Blk} (h : Vx.look H i = some b) : (i, b) ∈ H := by
  induction H with
  | nil => simp [Vx.look] at h
  | cons e H ih =>
    obtain ⟨j, c⟩ := e
    rw [look_cons] at h
    split at h
    · rename_i e; subst e; simp at h; subst h; exact List.mem_cons_self
    · exact List.mem_cons_of_mem _ (ih h)
theorem mem_look {H : Hp} {i : Nat} {b : Blk} (h : (i, b) ∈ H) (hn : (H.map (·.1)).Nodup) : Vx.look H i = some b := by
  induction H with
  | nil => simp at h
  | cons e H ih =>
    obtain ⟨j, c⟩ := e
    simp only [List.map_cons, List.nodup_cons] at hn
    rw [look_cons]
    simp only [List.mem_cons, Prod.mk.injEq] at h
    rcases h with ⟨rfl, rfl⟩ | h
    · simp
    · have : j ≠ i := fun e => by subst e; exact hn.1 (List.mem_map.2 ⟨_, h, rfl⟩)
      rw [if_neg this]
      exact ih h hn.2
theorem Srt.look {H H' : Hp} {nx : Nat} (h : Srt H nx) (hs : H'.Sublist H) {i : Nat} {b : Blk} (hl : Vx.look H' i = some b) : Vx.look H i = some b :=
  mem_look (hs.subset (look_mem hl)) h.nd
theorem ddM_eq (j : Nat) (b : Blk) (H : Hp) (m : Nat) : ddM ((j, b) :: H) m = if Nat.testBit m j = true then ddM H m else (j, b) :: ddM H (m ||| 2 ^ j) := by
  show (Bool.rec (motive := fun _ => Hp) ((j, b) :: ddM H (m ||| 2 ^ j)) (ddM H m) (Nat.testBit m j) : Hp) = _
  cases Nat.testBit m j <;> rfl
theorem ddM_mem : ∀ {H : Hp} {m : Nat} {e : Nat × Blk}, e ∈ ddM H m → e ∈ H ∧ Nat.testBit m e.1 = false
  | [], m, e, h => by simp [ddM] at h
  | (j, b) :: H, m, e, h => by
    rw [ddM_eq] at h
    split at h
    · obtain ⟨h1, h2⟩ := ddM_mem h
      exact ⟨List.mem_cons_of_mem _ h1, h2⟩
    · rename_i hb
      simp only [List.mem_cons] at h
      rcases h with rfl | h
      · exact ⟨List.mem_cons_self, by simpa using hb⟩
      · obtain ⟨h1, h2⟩ := ddM_mem h
        rw [Nat.testBit_or] at h2
        simp only [Bool.or_eq_false_iff] at h2
        exact ⟨List.mem_cons_of_mem _ h1, h2.1⟩
theorem ddM_look : ∀ (H : Hp) (m i : Nat) (b : Blk), Vx.look (ddM H m) i = some b → Vx.look H i = some b
  | [], m, i, b, h => by simp [ddM, Vx.look] at h
  | (j, c) :: H, m, i, b, h => by
    have hm := (ddM_mem (look_mem h)).2
    rw [ddM_eq] at h
    rw [look_cons]
    split at h
    · rename_i hb
      rw [if_neg (fun e => by subst e; rw [hb] at hm; simp at hm)]
      exact ddM_look H m i b h
    · rw [look_cons] at h
      split at h
      · rename_i e; rw [if_pos e]; exact h
      · rename_i e; rw [if_neg e]; exact ddM_look H _ i b h
theorem ddM_nodup : ∀ (H : Hp) (m : Nat), ((ddM H m).map (·.1)).Nodup
  | [], m => by simp [ddM]
  | (j, b) :: H, m => by
    rw [ddM_eq]
    split
    · exact ddM_nodup H m
    · simp only [List.map_cons, List.nodup_cons]
      refine ⟨fun hm => ?_, ddM_nodup H _⟩
      obtain ⟨e, he, h1⟩ := List.mem_map.1 hm
      have h2 := (ddM_mem he).2
      rw [h1, Nat.testBit_or, Nat.testBit_two_pow_self] at h2
      simp at h2
theorem dd_srt {H : Hp} {nx : Nat} (h : ltB' H nx = true) : Srt (dd H) nx := by
  simp only [ltB', List.all_eq_true, Nat.blt_eq] at h
  exact ⟨fun e he => h e (ddM_mem he).1, ddM_nodup H 0⟩
theorem young_sub : ∀ (n : Nat) (H : Hp), (young n H).Sublist H
  | n, [] => List.Sublist.slnil
  | n, (j, b) :: H => by
    show (Bool.rec (motive := fun _ => Hp) ((j, b) :: H) (young n H) (Nat.ble n j) : Hp).Sublist _
    cases Nat.ble n j with
    | true => exact (young_sub n H).cons _
    | false => exact List.Sublist.refl _
theorem dropX_sub (p : Bool) (n lw : Nat) (H : Hp) : (dropX p n lw H).Sublist H := by
  unfold dropX
  cases p with
  | false => exact List.Sublist.refl _
  | true =>
    cases Nat.blt lw n with
    | true => exact List.Sublist.refl _
    | false => exact young_sub n H
set_option maxHeartbeats 1000000 in
theorem append_srt {P : Program} {t u : TypeId} {s x : V} {H : Hp} {nx : Nat} {r : MR} (hs : Srt H nx) (h : appendV P t u s x H nx = some r) : Srt r.2.1 r.2.2 := by
  unfold appendV at h
  split at h
  rotate_left
  · simp at h
  simp only [Option.bind_eq_some_iff] at h
  obtain ⟨i, hi, zr, hzr, ⟨news, m⟩, hnews, h⟩ := h
  simp only at h
  repeat' split at h
  all_goals first
    | (simp at h; done)
    | (simp at h; subst h; first | exact hs.le (by simp) | exact hs.cons _ | exact (hs.del _).cons _)
    | (simp only [Option.bind_eq_some_iff] at h
       obtain ⟨b, hb, h⟩ := h
       repeat' split at h
       all_goals first
         | (simp at h; done)
         | (simp at h; subst h; first | exact hs.le (by simp) | exact hs.cons _ | exact (hs.del _).cons _ | exact (hs.upd _ _).le (by simp)))
set_option maxHeartbeats 1000000 in
theorem evm_srt {P : Program} {F : Fr} {H : Hp} {nx : Nat} {op : Op} {r : MR} (hs : Srt H nx) (h : evm P F H nx op = some r) : Srt r.2.1 r.2.2 := by
  cases op <;> simp only [evm] at h <;> try (simp at h; done)
  case alloc t => simp only [Option.bind_eq_some_iff, Option.some.injEq] at h; obtain ⟨_, _, _, _, rfl⟩ := h; exact hs.cons _
  case box t x => simp only [Option.bind_eq_some_iff, Option.some.injEq] at h; obtain ⟨_, _, _, _, rfl⟩ := h; exact hs.cons _
  case buildSlice t len parts =>
    split at h
    · simp only [Option.bind_eq_some_iff] at h
      obtain ⟨s, hs', ps, hps, h⟩ := h
      split at h
      · simp at h
      simp only [Option.bind_eq_some_iff] at h
      obtain ⟨z, hz, h⟩ := h
      split at h
      · simp only [Option.bind_eq_some_iff, Option.some.injEq] at h
        obtain ⟨l, hl, rfl⟩ := h
        exact hs.cons _
      · simp at h
    · simp at h
  case store t x y =>
    split at h
    · simp only [Option.bind_eq_some_iff] at h
      obtain ⟨b, hb, v, hv, s, hs', h⟩ := h
      split at h <;> simp at h
      subst h
      exact hs.upd _ _
    · simp at h
  case makeSlice t x y =>
    split at h
    · simp only [Option.bind_eq_some_iff] at h
      obtain ⟨i, hi, z, hz, h⟩ := h
      split at h <;> simp at h
      subst h
      exact hs.cons _
    · simp at h
  case makeMap t m =>
    split at h
    · simp at h; subst h; exact hs.cons _
    · split at h <;> simp at h
      subst h; exact hs.cons _
  case mapUpdate t m k x =>
    simp only [Option.bind_eq_some_iff] at h
    obtain ⟨vm, hm, vk, hk, vx, hx, h⟩ := h
    unfold updV at h
    split at h
    · split at h
      · simp only [Option.bind_eq_some_iff] at h
        obtain ⟨b, hb, h⟩ := h
        split at h
        · simp at h
        split at h
        · simp only [Option.bind_eq_some_iff] at h
          obtain ⟨k', hk', h⟩ := h
          split at h <;> simp at h
          subst h
          exact hs.upd _ _
        · simp at h; subst h; exact hs.upd _ _
        · simp at h
      · simp at h
    · simp at h
  case call c =>
    obtain ⟨callee, ⟨args⟩, ⟨argTypes⟩⟩ := c
    cases callee <;> try (simp at h; done)
    rename_i b
    cases b <;> try (simp at h; done)
    case append =>
      simp only at h
      split at h
      · simp only [Option.bind_eq_some_iff] at h
        obtain ⟨va, hva, vb, hvb, h⟩ := h
        exact append_srt hs h
      · simp at h
    case copy =>
      simp only at h
      split at h
      · simp only [Option.bind_eq_some_iff] at h
        obtain ⟨va, hva, vb, hvb, h⟩ := h
        unfold copyV at h
        split at h
        rotate_left
        · simp at h
        simp only [Option.bind_eq_some_iff] at h
        obtain ⟨i, hi, h⟩ := h
        repeat' split at h
        all_goals first
          | (simp at h; done)
          | (simp at h; subst h; exact hs)
          | (simp only [Option.bind_eq_some_iff] at h
             obtain ⟨n, hn, b, hb, h⟩ := h
             split at h <;> simp at h
             subst h
             exact hs.upd _ _)
      · simp at h
    case clear =>
      simp only at h
      split at h
      · simp only [Option.bind_eq_some_iff] at h
        obtain ⟨va, hva, h⟩ := h
        unfold clearV at h
        split at h
        · simp at h; subst h; exact hs
        · split at h
          · simp at h; subst h; exact hs
          · simp only [Option.bind_eq_some_iff] at h
            obtain ⟨z, hz, b, hb, h⟩ := h
            split at h <;> simp at h
            subst h
            exact hs.upd _ _
        · simp at h
      · simp at h
    case unsafeString =>
      simp only at h
      split at h
      · simp only [Option.bind_eq_some_iff] at h
        obtain ⟨va, hva, vb, hvb, h⟩ := h
        unfold ustrV at h
        split at h
        · simp only [Option.bind_eq_some_iff] at h
          obtain ⟨b, hb, bs, hbs, h⟩ := h
          split at h <;> simp at h
          subst h
          exact hs.del _
        · simp at h; subst h; exact hs
        · simp at h
      · simp at h
theorem evo_srt {P : Program} {F : Fr} {H : Hp} {nx : Nat} {op : Op} {r : OR} (hs : Srt H nx) (h : evo P [] F H nx op = some r) : Srt r.H r.nx := by
  rw [evo_eq] at h
  split at h
  · simp at h; subst h; exact hs
  · simp only [Option.map_eq_some_iff] at h
    obtain ⟨q, hq, rfl⟩ := h
    exact evm_srt hs hq
end Go.Proofs.Ytehbfajmileefaa.Fx
