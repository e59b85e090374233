/- Rows of terms that grow by appends; a term in which another one stands for a variable, plainly. -/
import Derived.Test.YtffibmlgdacafaaDoorUi
import Derived.Test.YtffibmlgdacafaaDoorBase
import Derived.Test.YtffibmlgdacafaaDoorApp
set_option linter.unusedSimpArgs false
set_option linter.unusedVariables false
namespace Go.Proofs.YtffibmlgdacafaaDoor.Um
open Go.RowKit Go.MapKept Pl Ft Mm In C2 Im

theorem KOwn.mono {w : World} : ∀ {n m lo hi : Nat} {v : Value} {ks : List Tm}, KOwn w n lo hi v ks → n ≤ m → KOwn w m lo hi v ks
  | 0, m, lo, hi, v, ks, h, _ => by
    obtain ⟨rfl, hle, hrow, hr⟩ := h
    exact KOwn.empty hle hrow hr
  | n + 1, 0, _, _, _, _, _, h => by omega
  | n + 1, m + 1, lo, hi, v, ks, h, hnm => by
    obtain ⟨us, f, g, hl, hle, hrow, hr, hk⟩ := h
    refine ⟨us, f, g, hl, hle, hrow, hr, fun j hj => ?_⟩
    obtain ⟨k1, k2, k3, k4⟩ := hk j hj
    exact ⟨k1, k2, k3, KOwn.mono k4 (by omega)⟩
theorem getD_app {ks : List Tm} {t : Tm} {j : Nat} : (ks ++ [t]).getD j tz = if j < ks.length then ks.getD j tz else if j = ks.length then t else tz := by
  rw [List.getD_eq_getElem?_getD, List.getElem?_append]
  by_cases h1 : j < ks.length
  · rw [if_pos h1, if_pos h1, List.getD_eq_getElem?_getD]
  · rw [if_neg h1, if_neg h1]
    by_cases h2 : j = ks.length
    · subst h2; simp
    · rw [if_neg h2, List.getElem?_eq_none (by simp; omega)]
      rfl
theorem src_term (w : World) (x0 x1 : Int) (x2 : ByteArray) (u : Value) (H : Nat) (hH : w.heap.size = H) : SrcAt (w.alloc (.cells #[.int .i64 x0, .int .i64 x1, .string x2, u] 28)) (some ⟨H, 0, none⟩) 1 4 [.int .i64 x0, .int .i64 x1, .string x2, u] := by
  subst hH
  exact ⟨rfl, .inr ⟨_, rfl, new_cells w #[.int .i64 x0, .int .i64 x1, .string x2, u] _ _ rfl⟩⟩
section
variable {ops : Array Oper} {rest : List Oper} {o : Oper} {a : Act} {Q : Exit → Act → World → Prop} (w : World)
/-- A term whose parts are of its own, behind a row of one's own. -/
theorem app_term (hgd : o.guard = none) (s x : Operand)
    (ho : o.op = .call { callee := .builtin .append, args := #[s, x], argTypes := #[26, 26] })
    (B n hi f' g' : Nat) (ks : List Tm) (t : Tm) (v u : Value) (hs : a.eval s = v) (hown : KOwn w (n + 1) B hi v ks) (hhi : hi ≤ f') (hkid : KOwn w n f' g' u t.kids) (hg' : g' ≤ w.heap.size) (hu : u.oneCell' = true)
    (A : Option Addr) (m c : Nat) (hx : a.eval x = .slice A m c) (hm : m = 1) (hsrc : SrcAt w A 1 4 (tCell t u)) (hl : ks.length ≤ 1000000)
    (h : ∀ v' w', KOwn w' (n + 1) B w'.heap.size v' (ks ++ [t]) → Only (fun g => v.ownBlock = some g) w w' → wpList Tryd.prog ops Q rest (a.put o.dst v') w') : wpList Tryd.prog ops Q (o :: rest) a w := by
  obtain ⟨i0, hi0, hz0, hz1, hz2⟩ := info_parts info_term
  subst hm
  obtain ⟨us, f, g, hlen, hle, hrow, hr, hk⟩ := hown
  have hfg := hkid.le
  refine wpList_app w hgd s x 26 ho B 28 i0 (.agg #[.int .i64 0, .int .i64 0, .string ⟨#[]⟩, .slice none 0 0]) 4 56 Tryd.underlying26 hi0 hz0 hz1 hz2 rfl (by decide) v ks.length (tCells ks us) hs hrow A 1 c (tCell t u) hx hsrc ?_ (by simp only [maxLen]; omega) (by omega) (by omega)
    (fun v' w' h1 h2 h3 => h v' w' ?_ ⟨h2.os, h2.tape, h2.output, h2.size, fun k hk hne => h2.block k hk (fun e => hne e.symm)⟩)
  · intro y hy
    simp only [tCell, List.mem_cons, List.not_mem_nil, or_false] at hy
    rcases hy with rfl | rfl | rfl | rfl
    · rfl
    · rfl
    · rfl
    · exact hu
  · have hsz := h2.size
    have hon : Only (fun g => v.ownBlock = some g) w w' := ⟨h2.os, h2.tape, h2.output, h2.size, fun k hk hne => h2.block k hk (fun e => hne e.symm)⟩
    have hlt : ∀ r, v'.ownBlock = some r → r < w'.heap.size := fun r hr' => (h1.lt r hr').2
    have hold : ∀ r, v'.ownBlock = some r → (v.ownBlock = some r) ∨ r = w.heap.size := fun r hr' => by
      rcases h3 with e | e
      · exact .inl (e ▸ hr')
      · rw [e] at hr'; exact .inr (Option.some.inj hr').symm
    refine ⟨us ++ [u], (fun j => if j = ks.length then f' else f j), (fun j => if j = ks.length then g' else g j), by simp [hlen], by omega, ?_, fun r hr' => ⟨hlt r hr', fun j hj => ?_⟩, fun j hj => ?_⟩
    · rw [List.length_append, tCells_snoc ks us t u hlen]
      exact h1
    · rw [List.length_append, List.length_singleton] at hj
      simp only
      by_cases hjk : j = ks.length
      · rw [if_pos hjk, if_pos hjk]
        rcases hold r hr' with e | e
        · left; have := (hr r e).1; omega
        · right; omega
      · rw [if_neg hjk, if_neg hjk]
        rcases hold r hr' with e | e
        · exact (hr r e).2 j (by omega)
        · right
          have := (hk j (by omega)).2.1
          omega
    · rw [List.length_append, List.length_singleton] at hj
      simp only
      by_cases hjk : j = ks.length
      · rw [if_pos hjk, if_pos hjk, getD_snoc hlen, if_neg (by omega), if_pos hjk, getD_app, if_neg (by omega), if_pos hjk]
        refine ⟨by omega, by omega, fun i hi' => ?_, hkid.only hon (fun b hb1 hb2 hb3 => ?_)⟩
        · rw [if_neg (by omega)]
          have := (hk i (by omega)).2.1
          omega
        · have := (hr b hb3).1; omega
      · rw [if_neg hjk, if_neg hjk, getD_snoc hlen, if_pos (by omega), getD_app, if_pos (by omega)]
        obtain ⟨k1, k2, k3, k4⟩ := hk j (by omega)
        refine ⟨k1, by omega, fun i hi' => ?_, k4.only hon (fun b hb1 hb2 hb3 => ?_)⟩
        · rw [if_neg (by omega), if_neg (by omega)]
          exact k3 i hi'
        · have := (hr b hb3).2 j (by omega); omega
end
/-- A term in which x stands for each variable s, of a term at most so high. -/
def putT (s : ByteArray) (x : Tm) : Nat → Tm → Tm
  | 0, t => t
  | h + 1, t => if t.kind = 1 ∧ t.text = s then x else .mk t.kind t.num t.text (t.kids.map (putT s x h))
theorem putT_len {s : ByteArray} {x : Tm} {h : Nat} {t : Tm} (hn : ¬ (t.kind = 1 ∧ t.text = s)) : (putT s x (h + 1) t).kids.length = t.kids.length := by
  unfold putT
  rw [if_neg hn]
  simp [Tm.kids]
end Go.Proofs.YtffibmlgdacafaaDoor.Um
