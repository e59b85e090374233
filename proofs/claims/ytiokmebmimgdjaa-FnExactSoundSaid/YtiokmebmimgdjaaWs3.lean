/- The walk of the model: what is reached from some places on, with what is called or without. -/
import Derived.Test.YtiokmebmimgdjaaWs2
import Derived.Test.YtiokmebmimgdjaaWy4
set_option linter.unusedSimpArgs false
set_option linter.unusedVariables false
namespace Go.Proofs.Ytiokmebmimgdjaa.Wk
open Go.RowKit Pl Ft Mm In C2 Im Sw

theorem copyInts_c (xs : List Int) (a : Option Addr) (c : Nat) (w : World) (hr : Rd w (.slice a xs.length c) xs) (hl : xs.length ≤ 1000000) :
    Calls Try.prog 30 #[.slice a xs.length c] w (WaysPost2 xs w) := by
  have HRd := hid hr
  have HB0 := hid ((Below.refl w.heap.size w).alloc (Nat.le_refl _) (.cells #[] 3))
  have HL := hid (own_lit w [] #[] rfl (by simp) 0 rfl)
  clear hr
  go_enter Try.func30, Try.ntmps30
  go_wp2_with (at_builtin; refine app_ints _ rfl _ _ rfl w.heap.size [] xs _ rfl HL.out _ _ _ rfl rfl (SrcAt.of_rd (HRd.out.on HB0.out)) (by simp; omega) (by simp) ?_)
  intro v2 w2 hg2
  have HO2 := hid (show w2.ownsRow w.heap.size 3 1 v2 xs.length (ints xs) from hg2.own)
  have HB2 := hid (HB0.out.trans hg2.bel)
  clear hg2
  go_wp2_with fail
  go_ret
  exact ⟨_, rfl, HO2.out, HB2.out⟩
/-- Where a place leads, with what is called or without. -/
def Gm (code : List Int) (calls : Bool) (p : Nat) : List Int := match readP code p with | none => [] | some i => nextsP code i (p + slong i) ++ (if calls = true ∧ i.op = 29 then [i.n] else [])
theorem gm_gw {code : List Int} {p : Nat} {q : Int} : q ∈ Gm code true p ↔ q ∈ Gw code p := by
  unfold Gm Gw
  cases readP code p with
  | none => rfl
  | some i =>
    simp only
    rw [mem_succs, List.mem_append]
    by_cases h : i.op = 29 <;> simp [h]
theorem Rc.congr {G G' : Nat → List Int} {S : List Int} (h : ∀ p q, q ∈ G p ↔ q ∈ G' p) {p : Nat} : Rc G S p ↔ Rc G' S p := by
  constructor
  · intro hr
    induction hr with
    | start p hp => exact .start p hp
    | step p q _ hq ih => exact .step p q ih ((h p q).1 hq)
  · intro hr
    induction hr with
    | start p hp => exact .start p hp
    | step p q _ hq ih => exact .step p q ih ((h p q).2 hq)
theorem nextsP_len (code : List Int) (i : IIns) (next : Int) (hb : i.op = 30 → i.b ≤ 8) : (nextsP code i next).length ≤ 9 := by
  unfold nextsP
  repeat' split
  all_goals (try simp)
  rename_i h30
  have := tab_len (code := code) (hb h30)
  omega
theorem gm_bd {code : List Int} (hb : code.all isByte = true) (hlen : code.length ≤ 2000) (calls : Bool) {S : List Int} (hS : ∀ q ∈ S, 0 ≤ q ∧ q ≤ 100000) : GBd (Gm code calls) S 100000 10 where
  st q hq := hS q hq
  bd p hp q hq := by
    unfold Gm at hq
    cases hr : readP code p with
    | none => rw [hr] at hq; cases hq
    | some i =>
      rw [hr] at hq
      have hf := readP_facts hr
      refine succs_bd hb hf.2.1 (next := (p : Int) + slong i) (by omega) q ?_
      rw [mem_succs]
      rcases List.mem_append.1 hq with h1 | h1
      · exact .inl h1
      · split at h1
        · rename_i hc
          exact .inr ⟨hc.2, by simpa using h1⟩
        · cases h1
  len p hp := by
    unfold Gm
    cases hr : readP code p with
    | none => simp
    | some i =>
      have hf := readP_facts hr
      have := nextsP_len code i (p + slong i) (fun h => valid_b hf.2.1 h)
      simp only [List.length_append]
      split
      · simp; omega
      · simp; omega
theorem insOf_len {code : List Int} {ms : List Nat} (h : ms.Nodup) : (insOf code ms).length ≤ code.length :=
  rc_nodup_le code.length _ (h.filter _) (fun p hp => by
    have h2 := (mem_insOf.1 hp).2
    obtain ⟨i, hi⟩ := Option.isSome_iff_exists.1 h2
    exact (readP_facts hi).1)
/-- A place at which no instruction stands is passed by. -/
theorem WL.loose {code : List Int} {G : Nat → List Int} {S : List Int} {N D : Nat} {ms : List Nat} {ahead rest : List Int} {a : Nat} (hG : GBd G S N D) (h : WL G S ms ahead) (hm : ∀ q, q ∈ ahead ↔ q = (a : Int) ∨ q ∈ rest) (hr : readP code a = none) (hg : G a = []) :
    ∃ ms', WL G S ms' rest ∧ insOf code ms' = insOf code ms ∧ lostIn code ms' = true := by
  by_cases ha : a ∈ ms
  · exact ⟨ms, h.again hm ha, rfl, List.any_eq_true.2 ⟨a, ha, by unfold badAt; rw [hr]⟩⟩
  · refine ⟨ms ++ [a], h.meet hG hm ha (fun q => by simp [hg]), ?_, ?_⟩
    · rw [insOf_push, hr]
    · rw [lostIn_push]
      unfold badAt
      rw [hr, Bool.or_true]
def isT : Option Value → Bool
  | some (.bool true) => true
  | _ => false
def bfree (w : World) (g n : Nat) : Nat := ((List.range n).filter fun j => !isT (w.cell? ⟨g, j, none⟩)).length
theorem bfree_eq {w : World} {g n : Nat} {f : Nat → Bool} (h : BAt w g n f) : bfree w g n = ((List.range n).filter fun j => !f j).length := by
  unfold bfree
  congr 1
  apply List.filter_congr
  intro j hj
  rw [h.cell (List.mem_range.1 hj)]
  cases f j <;> rfl
theorem free_step (f f' : Nat → Bool) (p : Nat) (hp : f p = false) (hf : ∀ q, f' q = (f q || q == p)) : ∀ n, ((List.range n).filter fun j => !f' j).length + (if p < n then 1 else 0) = ((List.range n).filter fun j => !f j).length
  | 0 => by simp
  | n + 1 => by
    have ih := free_step f f' p hp hf n
    rw [List.range_succ, List.filter_append, List.filter_append, List.length_append, List.length_append]
    have h2 := hf n
    by_cases hn : n = p
    · subst hn
      rw [if_neg (by omega)] at ih
      rw [if_pos (by omega)]
      have h3 : f' n = true := by rw [h2]; simp
      simp [h3, hp]
      omega
    · have h3 : f' n = f n := by rw [h2]; simp [hn]
      have e : (if p < n + 1 then 1 else 0) = (if p < n then 1 else 0) := by
        by_cases h4 : p < n
        · rw [if_pos h4, if_pos (by omega)]
        · rw [if_neg h4, if_neg (by omega)]
      rw [e]
      cases hfn : f n <;> simp [h3, hfn] <;> omega
structure WsRel (code : List Int) (S : List Int) (G : Nat → List Int) (gb : Nat) (w : World) (ms : List Nat) (L : List Int) (k : Nat) (v : Value) (wr : World) : Prop where
  inv : WL G S ms (L.drop k)
  own : wr.ownsRow w.heap.size 3 1 v L.length (ints L)
  bat : BAt wr gb code.length (fun q => decide (q ∈ insOf code ms))
  bel : Below w.heap.size w wr
  le : k ≤ L.length
  len : L.length ≤ 10 * (insOf code ms).length + S.length
def WalkPost (code S : List Int) (calls : Bool) (w : World) (e : Ending) (w' : World) : Prop :=
  ∃ (v : Value) (ms : List Nat), e = .returned (.tuple #[v, .bool (!lostIn code ms)]) ∧ w'.ownsRow w.heap.size 3 1 v (truesL (fun q => decide (q ∈ insOf code ms)) code.length).length (ints (truesL (fun q => decide (q ∈ insOf code ms)) code.length)) ∧ (∀ p, p ∈ ms ↔ Rc (Gm code calls) S p) ∧ Below w.heap.size w w'
theorem info_bool : (Try.prog.info? 4).map (fun i => (i.zero, i.size, i.bytes)) = some (some (.bool false), 1, 1) := by kernel_rfl
theorem BAt.of_own {w : World} {base n : Nat} {v : Value} {f : Nat → Bool} (h : w.ownsRow base 4 1 v n ((List.range n).map fun j => .bool (f j))) (hn : 0 < n) : ∃ g cap, v = .slice (some ⟨g, 0, none⟩) n cap ∧ base ≤ g ∧ BAt w g n f := by
  rcases h.2 with ⟨_, h0⟩ | ⟨g, cap, cur, rfl, hg, hr, hnc, hm, hs, ht⟩
  · omega
  · refine ⟨g, cap, rfl, hg, cur, hr, fun j hj => ?_⟩
    have h1 := congrArg (fun l => l[j]?) ht
    simp only [List.getElem?_take, Nat.mul_one, hj, if_true, List.getElem?_map, List.getElem?_range hj, Option.map_some] at h1
    rw [← Array.getElem?_toList]
    exact h1
end Go.Proofs.Ytiokmebmimgdjaa.Wk
