/- Graphs plainly: a search in depth, what is on all ways, loops. No program is spoken of here. -/
import Derived.Test.YtihhpgklpichgaaGreatPlain
set_option linter.unusedSimpArgs false
set_option linter.unusedVariables false
namespace Go.Proofs.YtihhpgklpichgaaGreat.Gp
open Go.RowKit Pl

/-- A search in depth: places ahead; what was met and what was left, before and behind. -/
inductive Dfs (L : Nat → List Nat) : List Nat → List Nat → List Nat → List Nat → List Nat → Prop
  | nil (ms lf : List Nat) : Dfs L [] ms lf ms lf
  | skip (q : Nat) (qs ms lf ms' lf' : List Nat) (h : q ∈ ms) (r : Dfs L qs ms lf ms' lf') : Dfs L (q :: qs) ms lf ms' lf'
  | go (q : Nat) (qs ms lf ms1 lf1 ms' lf' : List Nat) (h : q ∉ ms) (i : Dfs L (L q) (ms ++ [q]) lf ms1 lf1) (r : Dfs L qs ms1 (lf1 ++ [q]) ms' lf') : Dfs L (q :: qs) ms lf ms' lf'
/-- What is reached from some places on without coming to some others. -/
inductive Av (L : Nat → List Nat) (ms qs : List Nat) : Nat → Prop
  | start (q : Nat) (h : q ∈ qs) (hn : q ∉ ms) : Av L ms qs q
  | step (p q : Nat) (h : Av L ms qs p) (hq : q ∈ L p) (hn : q ∉ ms) : Av L ms qs q
/-- Each one is a beginning, or one behind it leads to it. -/
def Tree (L : Nat → List Nat) (qs : List Nat) : List Nat → Prop
  | [] => True
  | p :: b => (p ∈ qs ∨ ∃ u ∈ b, p ∈ L u) ∧ Tree L qs b
section
variable {L : Nat → List Nat} {N : Nat} {qs ms lf ms' lf' : List Nat}
theorem Av.not {p : Nat} (h : Av L ms qs p) : p ∉ ms := by cases h <;> assumption
theorem Av.of {ms2 qs2 : List Nat} (hq : ∀ q ∈ qs, q ∉ ms → Av L ms2 qs2 q) (hm : ∀ m ∈ ms2, m ∈ ms) {p : Nat} (h : Av L ms qs p) : Av L ms2 qs2 p := by
  induction h with
  | start q h hn => exact hq q h hn
  | step p q _ hq2 hn ih => exact .step p q ih hq2 (fun h => hn (hm _ h))
theorem Av.lt (hL : ∀ p, p < N → ∀ q ∈ L p, q < N) (hq : ∀ q ∈ qs, q < N) {p : Nat} (h : Av L ms qs p) : p < N := by
  induction h with
  | start q h hn => exact hq q h
  | step p q _ hq2 hn ih => exact hL p ih q hq2
theorem Dfs.det (h : Dfs L qs ms lf ms' lf') : ∀ {c d : List Nat}, Dfs L qs ms lf c d → ms' = c ∧ lf' = d := by
  induction h with
  | nil ms lf => intro c d h; cases h; exact ⟨rfl, rfl⟩
  | skip q qs ms lf ms' lf' h r ih =>
    intro c d k
    cases k with
    | skip _ _ _ _ _ _ h2 r2 => exact ih r2
    | go _ _ _ _ _ _ _ _ h2 i2 r2 => exact absurd h h2
  | go q qs ms lf ms1 lf1 ms' lf' h i r ih1 ih2 =>
    intro c d k
    cases k with
    | skip _ _ _ _ _ _ h2 r2 => exact absurd h2 h
    | go _ _ _ _ _ _ _ _ h2 i2 r2 =>
      obtain ⟨rfl, rfl⟩ := ih1 i2
      exact ih2 r2
theorem Dfs.append (h : Dfs L qs ms lf ms' lf') : ∀ {b c d : List Nat}, Dfs L b ms' lf' c d → Dfs L (qs ++ b) ms lf c d := by
  induction h with
  | nil ms lf => intro b c d k; exact k
  | skip q qs ms lf ms' lf' h r ih => intro b c d k; exact .skip _ _ _ _ _ _ h (ih k)
  | go q qs ms lf ms1 lf1 ms' lf' h i r ih1 ih2 => intro b c d k; exact .go _ _ _ _ _ _ _ _ h i (ih2 k)
theorem Dfs.one_skip (q : Nat) (h : q ∈ ms) : Dfs L [q] ms lf ms lf := .skip _ _ _ _ _ _ h (.nil _ _)
theorem Dfs.one {q : Nat} (h : q ∉ ms) (i : Dfs L (L q) (ms ++ [q]) lf ms' lf') : Dfs L [q] ms lf ms' (lf' ++ [q]) := .go _ _ _ _ _ _ _ _ h i (.nil _ _)
theorem Dfs.sub (h : Dfs L qs ms lf ms' lf') : ∀ m ∈ ms, m ∈ ms' := by
  induction h with
  | nil => exact fun m h => h
  | skip _ _ _ _ _ _ _ _ ih => exact ih
  | go q qs ms lf ms1 lf1 ms' lf' h i r ih1 ih2 => exact fun m hm => ih2 m (ih1 m (by simp [hm]))
theorem Dfs.len (h : Dfs L qs ms lf ms' lf') : ms.length ≤ ms'.length := by
  induction h with
  | nil => exact Nat.le_refl _
  | skip _ _ _ _ _ _ _ _ ih => exact ih
  | go q qs ms lf ms1 lf1 ms' lf' h i r ih1 ih2 => simp at ih1; omega
theorem Dfs.nodup (h : Dfs L qs ms lf ms' lf') : ms.Nodup → ms'.Nodup := by
  induction h with
  | nil => exact fun h => h
  | skip _ _ _ _ _ _ _ _ ih => exact ih
  | go q qs ms lf ms1 lf1 ms' lf' h i r ih1 ih2 =>
    intro hn
    refine ih2 (ih1 ?_)
    rw [List.nodup_append]
    exact ⟨hn, by simp, fun x hx y hy => by
      obtain rfl : y = q := by simpa using hy
      exact fun e => h (e ▸ hx)⟩
theorem Dfs.lt (hL : ∀ p, p < N → ∀ q ∈ L p, q < N) (h : Dfs L qs ms lf ms' lf') : (∀ q ∈ qs, q < N) → (∀ m ∈ ms, m < N) → ∀ m ∈ ms', m < N := by
  induction h with
  | nil => exact fun _ h => h
  | skip q qs ms lf ms' lf' h r ih => exact fun hq hm => ih (fun x hx => hq x (by simp [hx])) hm
  | go q qs ms lf ms1 lf1 ms' lf' h i r ih1 ih2 =>
    intro hq hm
    have hqN := hq q (by simp)
    refine ih2 (fun x hx => hq x (by simp [hx])) (ih1 (hL q hqN) ?_)
    intro m hm2
    rcases List.mem_append.1 hm2 with h1 | h1
    · exact hm m h1
    · obtain rfl : m = q := by simpa using h1
      exact hqN
theorem Dfs.closed (h : Dfs L qs ms lf ms' lf') : (∀ q ∈ qs, q ∈ ms') ∧ ∀ p ∈ ms', p ∉ ms → ∀ q ∈ L p, q ∈ ms' := by
  induction h with
  | nil => exact ⟨fun _ h => (by cases h), fun p h hn => absurd h hn⟩
  | skip q qs ms lf ms' lf' h r ih =>
    refine ⟨fun x hx => ?_, ih.2⟩
    rcases List.mem_cons.1 hx with rfl | h1
    · exact r.sub _ h
    · exact ih.1 x h1
  | go q qs ms lf ms1 lf1 ms' lf' h i r ih1 ih2 =>
    refine ⟨fun x hx => ?_, fun p hp hn x hx => ?_⟩
    · rcases List.mem_cons.1 hx with rfl | h1
      · exact r.sub _ (i.sub _ (by simp))
      · exact ih2.1 x h1
    · by_cases hp1 : p ∈ ms1
      · by_cases hpq : p = q
        · subst hpq
          exact r.sub _ (ih1.1 x hx)
        · exact r.sub _ (ih1.2 p hp1 (by simp [hn, hpq]) x hx)
      · exact ih2.2 p hp hp1 x hx
theorem Dfs.sound (h : Dfs L qs ms lf ms' lf') : ∀ p ∈ ms', p ∈ ms ∨ Av L ms qs p := by
  induction h with
  | nil => exact fun p h => .inl h
  | skip q qs ms lf ms' lf' h r ih => exact fun p hp => (ih p hp).imp id (Av.of (fun x hx hn => .start x (by simp [hx]) hn) (fun m h => h))
  | go q qs ms lf ms1 lf1 ms' lf' h i r ih1 ih2 =>
    intro p hp
    rcases ih2 p hp with h1 | h1
    · rcases ih1 p h1 with h2 | h2
      · rcases List.mem_append.1 h2 with h3 | h3
        · exact .inl h3
        · obtain rfl : p = q := by simpa using h3
          exact .inr (.start _ (by simp) h)
      · exact .inr (Av.of (fun x hx hn => .step q x (.start q (by simp) h) hx (fun hm => hn (by simp [hm]))) (fun m hm => by simp [hm]) h2)
    · exact .inr (Av.of (fun x hx hn => .start x (by simp [hx]) (fun hm => hn (i.sub _ (by simp [hm])))) (fun m hm => i.sub _ (by simp [hm])) h1)
theorem Dfs.set (h : Dfs L qs ms lf ms' lf') (p : Nat) : p ∈ ms' ↔ p ∈ ms ∨ Av L ms qs p := by
  refine ⟨h.sound p, fun hp => ?_⟩
  rcases hp with h1 | h1
  · exact h.sub p h1
  · induction h1 with
    | start q hq hn => exact h.closed.1 q hq
    | step p q hp hq hn ih => exact h.closed.2 p ih hp.not q hq
theorem Tree.mono {qs2 : List Nat} : ∀ {l : List Nat}, Tree L qs l → (∀ q ∈ qs, q ∈ qs2) → Tree L qs2 l
  | [], _, _ => trivial
  | _ :: _, h, hq => ⟨h.1.imp (hq _) id, Tree.mono h.2 hq⟩
theorem Tree.app {qs2 : List Nat} : ∀ {l1 l2 : List Nat}, Tree L qs l1 → Tree L qs2 l2 → (∀ p ∈ qs, p ∈ qs2 ∨ ∃ u ∈ l2, p ∈ L u) → Tree L qs2 (l1 ++ l2)
  | [], _, _, h2, _ => h2
  | p :: b, l2, h1, h2, hq => ⟨by
      rcases h1.1 with h | ⟨u, hu, hp⟩
      · rcases hq p h with h3 | ⟨u, hu, hp⟩
        · exact .inl h3
        · exact .inr ⟨u, by simp [hu], hp⟩
      · exact .inr ⟨u, by simp [hu], hp⟩, Tree.app h1.2 h2 hq⟩
theorem Dfs.left (h : Dfs L qs ms lf ms' lf') : ∃ new, lf' = lf ++ new ∧ (∀ p, p ∈ ms' ↔ p ∈ ms ∨ p ∈ new) ∧ new.Nodup ∧ (∀ p ∈ new, p ∉ ms) ∧ Tree L qs new := by
  induction h with
  | nil => exact ⟨[], by simp, by simp, List.nodup_nil, by simp, trivial⟩
  | skip q qs ms lf ms' lf' h r ih =>
    obtain ⟨new, h1, h2, h3, h4, h5⟩ := ih
    exact ⟨new, h1, h2, h3, h4, h5.mono (fun x hx => by simp [hx])⟩
  | go q qs ms lf ms1 lf1 ms' lf' h i r ih1 ih2 =>
    obtain ⟨n1, a1, a2, a3, a4, a5⟩ := ih1
    obtain ⟨n2, b1, b2, b3, b4, b5⟩ := ih2
    refine ⟨n1 ++ (q :: n2), by rw [b1, a1]; simp, fun p => ?_, ?_, fun p hp => ?_, ?_⟩
    · rw [b2, a2]
      simp only [List.mem_append, List.mem_cons, List.not_mem_nil, or_false]
      constructor
      · rintro (((h | h) | h) | h)
        · exact .inl h
        · exact .inr (.inr (.inl h))
        · exact .inr (.inl h)
        · exact .inr (.inr (.inr h))
      · rintro (h | h | h | h)
        · exact .inl (.inl (.inl h))
        · exact .inl (.inr h)
        · exact .inl (.inl (.inr h))
        · exact .inr h
    · have hq1 : q ∉ n1 := fun hq => a4 q hq (by simp)
      have hq2 : q ∉ n2 := fun hq => b4 q hq ((a2 q).2 (.inl (by simp)))
      rw [List.nodup_append]
      refine ⟨a3, List.nodup_cons.2 ⟨hq2, b3⟩, fun x hx y hy e => ?_⟩
      subst e
      rcases List.mem_cons.1 hy with rfl | h1
      · exact hq1 hx
      · exact b4 x h1 ((a2 x).2 (.inr hx))
    · rcases List.mem_append.1 hp with h1 | h1
      · exact fun hm => a4 p h1 (by simp [hm])
      · rcases List.mem_cons.1 h1 with rfl | h1
        · exact h
        · exact fun hm => b4 p h1 ((a2 p).2 (.inl (by simp [hm])))
    · exact Tree.app a5 ⟨.inl (by simp), b5.mono (fun x hx => by simp [hx])⟩ (fun p hp => .inr ⟨q, by simp, hp⟩)
end
theorem nodup_le : ∀ (n : Nat) (l : List Nat), l.Nodup → (∀ x ∈ l, x < n) → l.length ≤ n
  | 0, l, _, h => by
    cases l with
    | nil => simp
    | cons a r => have := h a List.mem_cons_self; omega
  | n + 1, l, hn, h => by
    by_cases hm : n ∈ l
    · have h1 := nodup_le n (l.erase n) (hn.erase n) (fun x hx => by
        have h2 := (hn.mem_erase_iff).1 hx
        have := h x h2.2
        have := h2.1
        omega)
      rw [List.length_erase_of_mem hm] at h1
      omega
    · have := nodup_le n l hn (fun x hx => by
        have h1 := h x hx
        have h2 : x ≠ n := fun e => hm (e ▸ hx)
        omega)
      omega
theorem snoc_nodup {ms : List Nat} {q : Nat} (hn : ms.Nodup) (h : q ∉ ms) : (ms ++ [q]).Nodup := by
  rw [List.nodup_append]
  exact ⟨hn, by simp, fun x hx y hy => by
    obtain rfl : y = q := by simpa using hy
    exact fun e => h (e ▸ hx)⟩
theorem snoc_lt {ms : List Nat} {q N : Nat} (hm : ∀ m ∈ ms, m < N) (h : q < N) : ∀ m ∈ ms ++ [q], m < N := by
  intro m hm2
  rcases List.mem_append.1 hm2 with h1 | h1
  · exact hm m h1
  · obtain rfl : m = q := by simpa using h1
    exact h
theorem Dfs.ex {L : Nat → List Nat} {N : Nat} (hL : ∀ p, p < N → ∀ q ∈ L p, q < N) : ∀ (k : Nat) (qs ms lf : List Nat), ms.Nodup → (∀ m ∈ ms, m < N) → N ≤ ms.length + k → (∀ q ∈ qs, q < N) → ∃ ms' lf', Dfs L qs ms lf ms' lf' := by
  intro k
  induction k with
  | zero =>
    intro qs ms lf hn hm hk hq
    induction qs with
    | nil => exact ⟨_, _, .nil _ _⟩
    | cons q qs ih =>
      obtain ⟨a, b, h⟩ := ih (fun x hx => hq x (by simp [hx]))
      by_cases hqm : q ∈ ms
      · exact ⟨_, _, .skip _ _ _ _ _ _ hqm h⟩
      · have := nodup_le N (ms ++ [q]) (snoc_nodup hn hqm) (snoc_lt hm (hq q (by simp)))
        simp at this
        omega
  | succ k ih =>
    intro qs
    induction qs with
    | nil => intro ms lf hn hm hk hq; exact ⟨_, _, .nil _ _⟩
    | cons q qs ih2 =>
      intro ms lf hn hm hk hq
      have hqN := hq q (by simp)
      by_cases hqm : q ∈ ms
      · obtain ⟨a, b, h⟩ := ih2 ms lf hn hm hk (fun x hx => hq x (by simp [hx]))
        exact ⟨_, _, .skip _ _ _ _ _ _ hqm h⟩
      · obtain ⟨a, b, h⟩ := ih (L q) (ms ++ [q]) lf (snoc_nodup hn hqm) (snoc_lt hm hqN) (by simp; omega) (hL q hqN)
        have hna := h.nodup (snoc_nodup hn hqm)
        have hla := h.lt hL (hL q hqN) (snoc_lt hm hqN)
        have hle : ms.length ≤ a.length := by
          have := h.len
          simp at this
          omega
        obtain ⟨c, d, h2⟩ := ih2 a (b ++ [q]) hna hla (by omega) (fun x hx => hq x (by simp [hx]))
        exact ⟨_, _, .go _ _ _ _ _ _ _ _ hqm h h2⟩

/-- What a search in depth from the places leaves, in order. -/
noncomputable def leftOf (L : Nat → List Nat) (qs ms : List Nat) : List Nat := by
  classical
  exact if h : ∃ lf ms', Dfs L qs ms [] ms' lf then Classical.choose h else []
theorem leftOf_eq {L : Nat → List Nat} {qs ms ms' lf : List Nat} (h : Dfs L qs ms [] ms' lf) : leftOf L qs ms = lf := by
  have hx : ∃ lf ms', Dfs L qs ms [] ms' lf := ⟨lf, ms', h⟩
  unfold leftOf
  rw [dif_pos hx]
  obtain ⟨ms2, h2⟩ := Classical.choose_spec hx
  exact (h2.det h).2
/-- Nodes from 0 to below N lead to such nodes. -/
structure Gd (L : Nat → List Nat) (N : Nat) : Prop where
  pos : 0 < N
  bd : ∀ p, p < N → ∀ q ∈ L p, q < N
structure LeftP (L : Nat → List Nat) (N : Nat) (qs : List Nat) (lf : List Nat) : Prop where
  mem : ∀ p, p ∈ lf ↔ Av L [] qs p
  nd : lf.Nodup
  lt : ∀ p ∈ lf, p < N
  tree : Tree L qs lf
theorem left_facts {L : Nat → List Nat} {N : Nat} (hL : Gd L N) (qs : List Nat) (hq : ∀ q ∈ qs, q < N) : LeftP L N qs (leftOf L qs []) := by
  obtain ⟨ms', lf, h⟩ := Dfs.ex hL.bd N qs [] [] List.nodup_nil (by simp) (by simp) hq
  rw [leftOf_eq h]
  obtain ⟨new, h1, h2, h3, h4, h5⟩ := h.left
  obtain rfl : lf = new := by simpa using h1
  have hm : ∀ p, p ∈ lf ↔ Av L [] qs p := fun p => by
    have h6 := h.set p
    rw [h2 p] at h6
    simpa using h6
  exact ⟨hm, h3, fun p hp => ((hm p).1 hp).lt hL.bd hq, h5⟩
noncomputable def orderP (L : Nat → List Nat) : List Nat := (leftOf L [0] []).reverse
/-- A graph in which nothing leads on from one node. -/
def cut (L : Nat → List Nat) (x : Int) : Nat → List Nat := fun p => if (p : Int) = x then [] else L p
noncomputable def belowP (L : Nat → List Nat) (x : Int) : List Nat := (orderP L).filter fun p => decide ((p : Int) = x) || !decide (p ∈ leftOf (cut L x) [0] [])
/-- A node is on all ways to one that is reached, or is this. -/
def Dm (L : Nat → List Nat) (x p : Nat) : Prop := Av L [] [0] p ∧ (p = x ∨ ¬ Av L [x] [0] p)
section
variable {L : Nat → List Nat} {N : Nat}
theorem gd_cut (hL : Gd L N) (x : Int) : Gd (cut L x) N := ⟨hL.pos, fun p hp q hq => by
  unfold cut at hq
  split at hq
  · cases hq
  · exact hL.bd p hp q hq⟩
theorem st_lt (hL : Gd L N) : ∀ q ∈ [0], q < N := fun q hq => by
  obtain rfl : q = 0 := by simpa using hq
  exact hL.pos
theorem mem_order (hL : Gd L N) (p : Nat) : p ∈ orderP L ↔ Av L [] [0] p := by
  unfold orderP
  rw [List.mem_reverse, (left_facts hL [0] (st_lt hL)).mem]
theorem order_nd (hL : Gd L N) : (orderP L).Nodup := by
  unfold orderP
  unfold List.Nodup
  rw [List.pairwise_reverse]
  exact (left_facts hL [0] (st_lt hL)).nd.imp (fun h => Ne.symm h)
theorem order_lt (hL : Gd L N) (p : Nat) (h : p ∈ orderP L) : p < N := ((mem_order hL p).1 h).lt hL.bd (st_lt hL)
theorem order_len (hL : Gd L N) : (orderP L).length ≤ N := nodup_le N _ (order_nd hL) (order_lt hL)
theorem av_cut {x : Int} {p : Nat} (h : Av (cut L x) [] [0] p) : Av L [] [0] p := by
  induction h with
  | start q h hn => exact .start q h hn
  | step p q _ hq hn ih =>
    unfold cut at hq
    split at hq
    · cases hq
    · exact .step p q ih hq hn
theorem av_cut_not {x p : Nat} (hne : p ≠ x) : Av (cut L x) [] [0] p ↔ Av L [x] [0] p := by
  constructor
  · intro h
    induction h with
    | start q h hn => exact .start q h (by simpa using hne)
    | step p q _ hq hn ih =>
      unfold cut at hq
      split at hq
      · cases hq
      · rename_i hpx
        exact .step p q (ih (by omega)) hq (by simpa using hne)
  · intro h
    clear hne
    induction h with
    | start q h hn => exact .start q h (by simp)
    | step p q hp hq hn ih =>
      have hpx : p ≠ x := by simpa using hp.not
      refine .step p q ih ?_ (by simp)
      unfold cut
      rw [if_neg (by omega)]
      exact hq
theorem mem_below (hL : Gd L N) (x : Int) (p : Nat) : p ∈ belowP L x ↔ Av L [] [0] p ∧ ((p : Int) = x ∨ ¬ Av (cut L x) [] [0] p) := by
  unfold belowP
  rw [List.mem_filter, mem_order hL]
  simp only [Bool.or_eq_true, decide_eq_true_eq, Bool.not_eq_true', decide_eq_false_iff_not]
  rw [(left_facts (gd_cut hL x) [0] (st_lt hL)).mem]
theorem below_dm (hL : Gd L N) (x p : Nat) : p ∈ belowP L (x : Int) ↔ Dm L x p := by
  rw [mem_below hL]
  unfold Dm
  by_cases h : p = x
  · subst h; simp
  · rw [av_cut_not h]
    simp only [h, Int.natCast_inj]
theorem below_out (hL : Gd L N) (x : Int) (hx : ∀ p, p ∈ orderP L → (p : Int) ≠ x) : belowP L x = [] := by
  apply List.eq_nil_iff_forall_not_mem.2
  intro p hp
  obtain ⟨h1, h2⟩ := (mem_below hL x p).1 hp
  rcases h2 with h2 | h2
  · exact hx p ((mem_order hL p).2 h1) h2
  · refine h2 ?_
    clear h2 hp
    induction h1 with
    | start q h hn => exact .start q h hn
    | step p q hp hq hn ih =>
      refine .step p q ih ?_ hn
      unfold cut
      rw [if_neg (hx p ((mem_order hL p).2 hp))]
      exact hq
theorem Dm.left {x p : Nat} (h : Dm L x p) : Av L [] [0] x := by
  rcases h.2 with h1 | h1
  · subst h1; exact h.1
  · apply Classical.byContradiction
    intro hx
    refine h1 ?_
    have h2 := h.1
    clear h h1
    induction h2 with
    | start q h hn => exact .start q h (by intro h3; obtain rfl : q = x := (by simpa using h3); exact hx (.start _ h hn))
    | step p q hp hq hn ih => exact .step p q ih hq (by intro h3; obtain rfl : q = x := (by simpa using h3); exact hx (.step _ _ hp hq hn))
theorem Dm.refl {p : Nat} (h : Av L [] [0] p) : Dm L p p := ⟨h, .inl rfl⟩
theorem Dm.trans {x y c : Nat} (h1 : Dm L x y) (h2 : Dm L y c) : Dm L x c := by
  refine ⟨h2.1, ?_⟩
  rcases h2.2 with rfl | h3
  · exact h1.2
  · by_cases hcx : c = x
    · exact .inl hcx
    · refine .inr fun hx => ?_
      rcases h1.2 with rfl | h4
      · exact h3 hx
      · refine h3 ?_
        clear h3 h2 hcx h1
        induction hx with
        | start q h hn => exact .start q h (by intro h5; obtain rfl : q = y := (by simpa using h5); exact h4 (.start _ h hn))
        | step p q hp hq hn ih => exact .step p q ih hq (by intro h5; obtain rfl : q = y := (by simpa using h5); exact h4 (.step _ _ hp hq hn))
/-- Of two nodes that are on all ways to a third one, one is on all ways to the other. -/
theorem Dm.line {x y c : Nat} (h1 : Dm L x c) (h2 : Dm L y c) : Dm L x y ∨ Dm L y x := by
  by_cases hxy : x = y
  · subst hxy; exact .inl (.refl h1.left)
  by_cases ha : Av L [x] [0] y
  · by_cases hb : Av L [y] [0] x
    · exfalso
      have key : ∀ p, Av L [] [0] p → Av L [x] [0] p ∨ Av L [y] [0] p := by
        intro p hp
        induction hp with
        | start q h hn =>
          by_cases hq : q = x
          · exact .inr (.start q h (by simp; omega))
          · exact .inl (.start q h (by simpa using hq))
        | step p q hp hq hn ih =>
          by_cases hqx : q = x
          · subst hqx; exact .inr hb
          · by_cases hqy : q = y
            · subst hqy; exact .inl ha
            · rcases ih with h | h
              · exact .inl (.step p q h hq (by simpa using hqx))
              · exact .inr (.step p q h hq (by simpa using hqy))
      rcases h1.2 with rfl | h3
      · rcases h2.2 with h4 | h4
        · exact hxy h4
        · exact h4 hb
      · rcases h2.2 with rfl | h4
        · exact h3 ha
        · rcases key c h1.1 with h5 | h5
          · exact h3 h5
          · exact h4 h5
    · exact .inr ⟨h1.left, .inr hb⟩
  · exact .inl ⟨h2.left, .inr ha⟩
theorem tree_av {x : Nat} : ∀ {l : List Nat}, Tree L [0] l → x ∉ l → ∀ u ∈ l, Av L [x] [0] u
  | [], _, _, _, h => by cases h
  | p :: b, h, hx, u, hu => by
    have hb : x ∉ b := fun h => hx (by simp [h])
    have hp : p ∉ [x] := by
      intro h
      obtain rfl : p = x := by simpa using h
      exact hx (by simp)
    rcases List.mem_cons.1 hu with rfl | h1
    · rcases h.1 with h2 | ⟨v, hv, hl⟩
      · exact .start _ h2 hp
      · exact .step v _ (tree_av h.2 hb v hv) hl hp
    · exact tree_av h.2 hb u h1
theorem idx_rev {l a b : List Nat} {x c : Nat} (hl : l = a ++ c :: b) (hn : l.Nodup) (hx : x ∈ b) : l.reverse.idxOf x < l.reverse.idxOf c := by
  subst hl
  have hc : c ∉ b := by
    have h := (List.nodup_append.1 hn).2.1
    exact (List.nodup_cons.1 h).1
  rw [List.reverse_append, List.reverse_cons, List.append_assoc, List.idxOf_append, if_pos (by simpa using hx), List.idxOf_append, if_neg (by simpa using hc)]
  have := List.idxOf_lt_length_of_mem (a := x) (l := b.reverse) (by simpa using hx)
  simp at this ⊢
  omega
theorem idx_sub {l : List Nat} {x y : Nat} (h : List.Sublist [x, y] l) (hn : l.Nodup) : l.idxOf x < l.idxOf y := by
  induction l with
  | nil => cases h
  | cons a l ih =>
    have hna := List.nodup_cons.1 hn
    cases h with
    | cons _ h2 =>
      have hx : x ∈ l := h2.subset (by simp)
      have hy : y ∈ l := h2.subset (by simp)
      have := ih h2 hna.2
      have e1 : (a == x) = false := beq_eq_false_iff_ne.2 (fun e => hna.1 (e ▸ hx))
      have e2 : (a == y) = false := beq_eq_false_iff_ne.2 (fun e => hna.1 (e ▸ hy))
      rw [List.idxOf_cons, List.idxOf_cons, e1, e2]
      simp only [cond_false]
      omega
    | cons_cons _ h2 =>
      have hy : y ∈ l := h2.subset (by simp)
      have e2 : (x == y) = false := beq_eq_false_iff_ne.2 (fun e => hna.1 (e ▸ hy))
      rw [List.idxOf_cons, List.idxOf_cons, e2, beq_self_eq_true]
      simp only [cond_false, cond_true]
      omega
/-- What is on all ways to another node stands ahead of it. -/
theorem Dm.ahead (hL : Gd L N) {x c : Nat} (h : Dm L x c) (hne : x ≠ c) : (orderP L).idxOf x < (orderP L).idxOf c := by
  have F := left_facts hL [0] (st_lt hL)
  have hc : c ∈ leftOf L [0] [] := (F.mem c).2 h.1
  obtain ⟨a, b, hab⟩ := List.append_of_mem hc
  have htree : ∀ {a l : List Nat}, Tree L [0] (a ++ l) → Tree L [0] l := by
    intro a
    induction a with
    | nil => exact fun h => h
    | cons p a ih => exact fun h => ih h.2
  have ht : Tree L [0] (c :: b) := htree (a := a) (hab ▸ F.tree)
  have hx : x ∈ b := by
    apply Classical.byContradiction
    intro hx
    have := tree_av (x := x) ht (by simp [hne, hx]) c (by simp)
    rcases h.2 with h1 | h1
    · exact hne h1.symm
    · exact h1 this
  exact idx_rev hab F.nd hx

/-- The last one of some nodes on all ways to a node that is another one; -1 if there is none. -/
noncomputable def lastI (L : Nat → List Nat) (l : List Nat) (i : Nat) : Int := match (l.filter fun x => decide (x ≠ i) && decide (i ∈ belowP L (x : Int))).getLast? with | none => -1 | some x => (x : Int)
noncomputable def domI (L : Nat → List Nat) (i : Nat) : Int := lastI L (orderP L) i
noncomputable def domsP (L : Nat → List Nat) (N : Nat) : List Int := (List.range N).map (domI L)
theorem lastI_nil (i : Nat) : lastI L [] i = -1 := rfl
theorem lastI_snoc (l : List Nat) (x i : Nat) : lastI L (l ++ [x]) i = if x ≠ i ∧ i ∈ belowP L (x : Int) then (x : Int) else lastI L l i := by
  unfold lastI
  rw [List.filter_append]
  by_cases h : x ≠ i ∧ i ∈ belowP L (x : Int)
  · rw [if_pos h]
    have : [x].filter (fun x => decide (x ≠ i) && decide (i ∈ belowP L (x : Int))) = [x] := by simp [h.1, h.2]
    rw [this, List.getLast?_append]
    simp
  · rw [if_neg h]
    have : [x].filter (fun x => decide (x ≠ i) && decide (i ∈ belowP L (x : Int))) = [] := by
      rw [List.filter_eq_nil_iff]
      intro y hy
      obtain rfl : y = x := by simpa using hy
      rw [Bool.and_eq_true, decide_eq_true_eq, decide_eq_true_eq]
      exact h
    rw [this, List.append_nil]
theorem domI_cases (hL : Gd L N) (i : Nat) : (domI L i = -1 ∧ ∀ x, Dm L x i → x = i) ∨ ∃ y : Nat, domI L i = (y : Int) ∧ y ≠ i ∧ Dm L y i ∧ ∀ x, Dm L x i → x ≠ i → Dm L x y := by
  have hmem : ∀ x, x ∈ (orderP L).filter (fun x => decide (x ≠ i) && decide (i ∈ belowP L (x : Int))) ↔ x ≠ i ∧ Dm L x i := by
    intro x
    rw [List.mem_filter, Bool.and_eq_true, decide_eq_true_eq, decide_eq_true_eq, below_dm hL]
    exact ⟨fun h => h.2, fun h => ⟨(mem_order hL x).2 h.2.left, h⟩⟩
  unfold domI lastI
  cases hg : ((orderP L).filter fun x => decide (x ≠ i) && decide (i ∈ belowP L (x : Int))).getLast? with
  | none =>
    left
    refine ⟨rfl, fun x hx => ?_⟩
    rw [List.getLast?_eq_none_iff] at hg
    apply Classical.byContradiction
    intro hne
    have := (hmem x).2 ⟨hne, hx⟩
    rw [hg] at this
    cases this
  | some y =>
    right
    have hy := (hmem y).1 (List.mem_of_getLast? hg)
    refine ⟨y, rfl, hy.1, hy.2, fun x hx hne => ?_⟩
    rcases hx.line hy.2 with h | h
    · exact h
    · by_cases hxy : y = x
      · subst hxy; exact .refl h.1
      · exfalso
        have h1 := h.ahead hL hxy
        obtain ⟨ys, hys⟩ := List.getLast?_eq_some_iff.1 hg
        have hxm := (hmem x).2 ⟨hne, hx⟩
        rw [hys] at hxm
        have hxs : x ∈ ys := by
          rcases List.mem_append.1 hxm with h2 | h2
          · exact h2
          · exact absurd (by simpa using h2 : x = y).symm hxy
        have hsub : List.Sublist [x, y] (orderP L) := by
          have h3 : List.Sublist ([x] ++ [y]) (ys ++ [y]) := List.Sublist.append (List.singleton_sublist.2 hxs) (List.Sublist.refl _)
          exact (hys ▸ h3 : List.Sublist [x, y] _).trans List.filter_sublist
        have := idx_sub hsub (order_nd hL)
        omega
theorem domI_bd (hL : Gd L N) (i : Nat) : -1 ≤ domI L i ∧ domI L i < N := by
  rcases domI_cases hL i with ⟨h, _⟩ | ⟨y, h, _, h2, _⟩
  · have := hL.pos; omega
  · have := h2.left.lt hL.bd (st_lt hL); omega
end
end Go.Proofs.YtihhpgklpichgaaGreat.Gp
