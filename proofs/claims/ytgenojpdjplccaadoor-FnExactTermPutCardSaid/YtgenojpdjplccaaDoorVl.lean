/- A step of a drawn region: an append of a term to a row of one's own. -/
import Derived.Test.YtgenojpdjplccaaDoorVe
set_option linter.unusedSimpArgs false
set_option linter.unusedVariables false
namespace Go.Proofs.YtgenojpdjplccaaDoor.Um
open Go.RowKit Go.MapKept Pl Ft Mm In C2 Im

section
variable {ops : Array Oper} {rest : List Oper} {o : Oper} {a : Act} {Q : Exit → Act → World → Prop} (w : World)
theorem stp_term {K : Act → World → Prop} {E : Prop} (hgd : o.guard = none) (s x : Operand)
    (ho : o.op = .call { callee := .builtin .append, args := #[s, x], argTypes := #[23, 23] })
    (B n hi f' g' : Nat) (ks : List Tm) (t : Tm) (v u : Value) (hs : a.eval s = v) (hown : KOwn w (n + 1) B hi v ks) (hhi : hi ≤ f') (hkid : KOwn w n f' g' u t.kids) (hg' : g' ≤ w.heap.size) (hu : u.oneCell' = true)
    (A : Option Addr) (m c : Nat) (hx : a.eval x = .slice A m c) (hm : m = 1) (hsrc : SrcAt w A 1 4 (tCell t u)) (hl : ks.length ≤ 1000000)
    (h : ∀ v' w', KOwn w' (n + 1) B w'.heap.size v' (ks ++ [t]) → Only (fun g => v.ownBlock = some g) w w' → K (a.put o.dst v') w') : if Region.wanted o (yielded ops a.tmps) = true then Oper.wp Tryd.prog o a w K Q else E := by
  obtain ⟨i0, hi0, hz0, hz1, hz2⟩ := info_parts info_term
  subst hm
  obtain ⟨us, f, g, hlen, hle, hrow, hr, hk⟩ := hown
  have hfg := hkid.le
  refine step_app w hgd s x 23 ho B 25 i0 (.agg #[.int .i64 0, .int .i64 0, .string ⟨#[]⟩, .slice none 0 0]) 4 56 Tryd.underlying23 hi0 hz0 hz1 hz2 rfl (by decide) v ks.length (tCells ks us) hs hrow A 1 c (tCell t u) hx hsrc ?_ (by simp only [maxLen]; omega) (by omega) (by omega)
    (fun v' w' h1 h2 h3 => h v' w' ?_ ⟨h2.os, h2.tape, h2.output, h2.size, fun k hk hne => h2.block k hk (fun e => hne e.symm)⟩)
  · intro y hy
    simp only [tCell, List.mem_cons, List.not_mem_nil, or_false] at hy
    rcases hy with rfl | rfl | rfl | rfl
    · rfl
    · rfl
    · rfl
    · exact hu
  · have hsz := h2.size
    have hon : Only (fun g => v.ownBlock = some g) w w' := ⟨h2.os, h2.tape, h2.output, h2.size, fun k hk hne => h2.block k hk (fun e => hne e.symm)⟩
    have hlt : ∀ r, v'.ownBlock = some r → r < w'.heap.size := fun r hr' => (h1.lt r hr').2
    have hold : ∀ r, v'.ownBlock = some r → (v.ownBlock = some r) ∨ r = w.heap.size := fun r hr' => by
      rcases h3 with e | e
      · exact .inl (e ▸ hr')
      · rw [e] at hr'; exact .inr (Option.some.inj hr').symm
    refine ⟨us ++ [u], (fun j => if j = ks.length then f' else f j), (fun j => if j = ks.length then g' else g j), by simp [hlen], by omega, ?_, fun r hr' => ⟨hlt r hr', fun j hj => ?_⟩, fun j hj => ?_⟩
    · rw [List.length_append, tCells_snoc ks us t u hlen]
      exact h1
    · rw [List.length_append, List.length_singleton] at hj
      simp only
      by_cases hjk : j = ks.length
      · rw [if_pos hjk, if_pos hjk]
        rcases hold r hr' with e | e
        · left; have := (hr r e).1; omega
        · right; omega
      · rw [if_neg hjk, if_neg hjk]
        rcases hold r hr' with e | e
        · exact (hr r e).2 j (by omega)
        · right
          have := (hk j (by omega)).2.1
          omega
    · rw [List.length_append, List.length_singleton] at hj
      simp only
      by_cases hjk : j = ks.length
      · rw [if_pos hjk, if_pos hjk, getD_snoc hlen, if_neg (by omega), if_pos hjk, getD_app, if_neg (by omega), if_pos hjk]
        refine ⟨by omega, by omega, fun i hi' => ?_, hkid.only hon (fun b hb1 hb2 hb3 => ?_)⟩
        · rw [if_neg (by omega)]
          have := (hk i (by omega)).2.1
          omega
        · have := (hr b hb3).1; omega
      · rw [if_neg hjk, if_neg hjk, getD_snoc hlen, if_pos (by omega), getD_app, if_pos (by omega)]
        obtain ⟨k1, k2, k3, k4⟩ := hk j (by omega)
        refine ⟨k1, by omega, fun i hi' => ?_, k4.only hon (fun b hb1 hb2 hb3 => ?_)⟩
        · rw [if_neg (by omega), if_neg (by omega)]
          exact k3 i hi'
        · have := (hr b hb3).2 j (by omega); omega
end
end Go.Proofs.YtgenojpdjplccaaDoor.Um
