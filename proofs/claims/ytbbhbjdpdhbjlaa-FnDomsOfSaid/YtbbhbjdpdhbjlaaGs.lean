/- The search in depth of the program: a closure that calls itself, along whatever function tells where nodes lead. -/
import Derived.Test.YtbbhbjdpdhbjlaaGr
import Derived.Laws.EntriesVeiled
set_option linter.unusedSimpArgs false
set_option linter.unusedVariables false
namespace Go.Proofs.Ytbbhbjdpdhbjlaa.Ge
open Go.RowKit Pl Ft Mm In Gp

def natI (l : List Nat) : List Int := l.map fun (p : Nat) => (p : Int)
theorem natI_len (l : List Nat) : (natI l).length = l.length := by simp [natI]
theorem natI_app (a b : List Nat) : natI (a ++ b) = natI a ++ natI b := by simp [natI]
theorem natI_get (l : List Nat) (k : Nat) (h : k < l.length) : (natI l).getD k 0 = (l.getD k 0 : Nat) := by simp [natI, h]
theorem natI_take (l : List Nat) (k : Nat) : (natI l).take k = natI (l.take k) := by simp [natI]
/-- What the function does that tells where nodes lead: it writes nothing that there was. -/
structure Lds (L : Nat → List Nat) (N : Nat) (F : Nat) (rs cs : Array Value) (w0 : World) : Prop where
  call : ∀ (p : Nat) (w : World), p < N → Below w0.heap.size w0 w → Calls Try.prog F (rs.push (.int .i64 p) ++ cs) w fun e w' => ∃ v, e = .returned v ∧ Rd w' v (natI (L p)) ∧ (∀ k, v.ownBlock = some k → k < w0.heap.size ∨ w.heap.size ≤ k) ∧ Below w.heap.size w w'
  enter : ∀ (xs : Array Value) (w : World), (callFunc F xs).run Try.prog w = .ok (.enter F xs) w
  len : ∀ p, p < N → (L p).length ≤ 1000
/-- The blocks of a search: boxes of what was met, of the closure, of the function, of what was left; the map. -/
structure SB (w0 : World) (bm gm bs bf bl B1 : Nat) : Prop where
  m0 : w0.heap.size ≤ bm
  g0 : w0.heap.size ≤ gm
  s0 : w0.heap.size ≤ bs
  f0 : w0.heap.size ≤ bf
  l0 : w0.heap.size ≤ bl
  m1 : bm < B1
  g1 : gm < B1
  s1 : bs < B1
  f1 : bf < B1
  l1 : bl < B1
  mg : bm ≠ gm
  ml : bm ≠ bl
  gs : gm ≠ bs
  gf : gm ≠ bf
  gl : gm ≠ bl
  sl : bs ≠ bl
  fl : bf ≠ bl
structure SS (w0 : World) (bm gm bs bf bl B1 : Nat) (fv lv : Value) (ms lf : List Nat) (w : World) : Prop where
  m : Row w bm 82 #[.map (some gm)]
  set : SetAt w gm ms
  s : Row w bs 65 #[.func (.func 93) #[] #[.pointer (some ⟨bm, 0, none⟩), .pointer (some ⟨bs, 0, none⟩), .pointer (some ⟨bf, 0, none⟩), .pointer (some ⟨bl, 0, none⟩)]]
  f : Row w bf 56 #[fv]
  l : Row w bl 26 #[lv]
  own : w.ownsRow B1 3 1 lv (natI lf).length (ints (natI lf))
  sz : B1 ≤ w.heap.size
  bel : Below w0.heap.size w0 w
/-- What a search turns. -/
def sT (gm bl : Nat) (lv : Value) : Nat → Prop := fun k => k = gm ∨ k = bl ∨ lv.ownBlock = some k
theorem SS.only {w0 : World} {bm gm bs bf bl B1 : Nat} {fv lv : Value} {ms lf : List Nat} {w w' : World} {p : Nat → Prop} (hS : SS w0 bm gm bs bf bl B1 fv lv ms lf w) (hB : SB w0 bm gm bs bf bl B1) (ho : Only p w w') (hp : ∀ k, p k → w.heap.size ≤ k) : SS w0 bm gm bs bf bl B1 fv lv ms lf w' := by
  have hlt : ∀ k, k < w.heap.size → ¬ p k := fun k hk h => by have := hp k h; omega
  refine ⟨row_only hS.m (hlt _ hS.m.lt) ho, hS.set.only (hlt _ hS.set.lt) ho, row_only hS.s (hlt _ hS.s.lt) ho, row_only hS.f (hlt _ hS.f.lt) ho, row_only hS.l (hlt _ hS.l.lt) ho, own_only hS.own (fun g hg => hlt g (hS.own.lt g hg).2) ho, Nat.le_trans hS.sz ho.size, hS.bel.trans (ho.below hS.bel.size (fun k hk => by have := hp k hk; have := hS.bel.size; omega))⟩
theorem SS.on {w0 : World} {bm gm bs bf bl B1 : Nat} {fv lv : Value} {ms lf : List Nat} {w w' : World} (hS : SS w0 bm gm bs bf bl B1 fv lv ms lf w) (hB : SB w0 bm gm bs bf bl B1) (ho : Below w.heap.size w w') : SS w0 bm gm bs bf bl B1 fv lv ms lf w' := hS.only hB (Only.of_below (p := fun _ => False) ho) (fun k h => h.elim)
/-- What a call of the closure makes: a search on from where it stood. -/
def SPost (L : Nat → List Nat) (w0 : World) (bm gm bs bf bl B1 : Nat) (fv : Value) (qs ms lf : List Nat) (lv : Value) (w : World) (e : Ending) (w' : World) : Prop :=
  ∃ ms' lf' lv', e = .returned (.tuple #[]) ∧ Dfs L qs ms lf ms' lf' ∧ SS w0 bm gm bs bf bl B1 fv lv' ms' lf' w' ∧ (∀ k, lv'.ownBlock = some k → lv.ownBlock = some k ∨ w.heap.size ≤ k) ∧ Only (sT gm bl lv) w w'
theorem left_len {L : Nat → List Nat} {N : Nat} {ms lf : List Nat} (hnd : lf.Nodup) (hlt : ∀ m ∈ lf, m < N) : lf.length ≤ N := nodup_le N lf hnd hlt
/-- Where a search stands within its places. -/
structure SRel (L : Nat → List Nat) (w0 : World) (bm gm bs bf bl B1 : Nat) (fv : Value) (qs ms lf : List Nat) (lv : Value) (w : World) (k : Nat) (ms' lf' : List Nat) (lv' : Value) (wr : World) : Prop where
  dfs : Dfs L (qs.take k) ms lf ms' lf'
  st : SS w0 bm gm bs bf bl B1 fv lv' ms' lf' wr
  at_ : ∀ k, lv'.ownBlock = some k → lv.ownBlock = some k ∨ w.heap.size ≤ k
  only : Only (sT gm bl lv) w wr
theorem SRel.mix {gm bl : Nat} {lv lv' : Value} {w wr w' : World} (h : Only (sT gm bl lv) w wr) (hat : ∀ k, lv'.ownBlock = some k → lv.ownBlock = some k ∨ w.heap.size ≤ k) (ho : Only (sT gm bl lv') wr w') : Only (sT gm bl lv) w w' := by
  refine only_mix h ho (fun k hk => ?_)
  rcases hk with h1 | h1 | h1
  · exact .inl (.inl h1)
  · exact .inl (.inr (.inl h1))
  · rcases hat k h1 with h2 | h2
    · exact .inl (.inr (.inr h2))
    · exact .inr h2
theorem take_snoc (qs : List Nat) (k : Nat) (h : k < qs.length) : qs.take (k + 1) = qs.take k ++ [qs.getD k 0] := by
  rw [List.take_succ_eq_append_getElem h]
  simp [h]
set_option maxRecDepth 100000 in
set_option maxHeartbeats 4000000 in
theorem search_c {L : Nat → List Nat} {N F : Nat} {rs cs : Array Value} (w0 : World) (bm gm bs bf bl B1 : Nat) (hL : Lds L N F rs cs w0) (hG : ∀ p, p < N → ∀ q ∈ L p, q < N) (hN : N ≤ 1000) (hB : SB w0 bm gm bs bf bl B1) :
    ∀ (n : Nat) (qs ms lf : List Nat) (v lv : Value) (w : World), N ≤ ms.length + n → ms.Nodup → (∀ m ∈ ms, m < N) → (∀ q ∈ qs, q < N) → qs.length ≤ 1000 → (∀ p ∈ lf, p ∈ ms) → lf.Nodup →
      SS w0 bm gm bs bf bl B1 (.func (.func F) rs cs) lv ms lf w → Rd w v (natI qs) → (∀ k, v.ownBlock = some k → ¬ sT gm bl lv k) →
      Calls Try.prog 93 #[v, .pointer (some ⟨bm, 0, none⟩), .pointer (some ⟨bs, 0, none⟩), .pointer (some ⟨bf, 0, none⟩), .pointer (some ⟨bl, 0, none⟩)] w (SPost L w0 bm gm bs bf bl B1 (.func (.func F) rs cs) qs ms lf lv w) := by
  intro n
  induction n using Nat.strongRecOn with
  | ind n ih =>
    intro qs ms lf v lv w hn hnd hlt hq hql hsub hlnd hS hr hv
    obtain ⟨a, c, rfl, ha⟩ := hr
    rw [natI_len] at ha ⊢
    have HA := hid ha
    have HL := hid hL
    have HG := hid hG
    have HB := hid hB
    have HNd := hid hnd
    have HLt := hid hlt
    have HQ := hid hq
    have HSub := hid hsub
    have HLn := hid hlnd
    have HS := hid hS
    have HV := hid hv
    have IH := hid ih
    clear ha hL hG hB hnd hlt hq hsub hlnd hS hv ih
    go_enter Try.func93, Try.ntmps93
    go_wp2_with fail
    go_loopw [10] (fun y wr => ∃ (k : Nat) (ms' lf' : List Nat) (lv' : Value), y = .int .i64 k ∧ k ≤ qs.length ∧ SRel L w0 bm gm bs bf bl B1 (.func (.func F) rs cs) qs ms lf lv w k ms' lf' lv' wr) (fun y _ => qs.length - (intOf y).toNat)
    case atStart => exact ⟨0, ms, lf, lv, rfl, by omega, ⟨.nil _ _, HS.out, fun k h => .inl h, Only.refl _ _⟩⟩
    case round =>
      obtain ⟨k, ms1, lf1, lv1, rfl, hk, hrel⟩ := hrel
      have HR := hid hrel
      have hsz := hrel.only.size
      clear hrel
      by_cases hlt : k < qs.length
      case neg =>
        obtain rfl : k = qs.length := by omega
        go_wp2_with fail
        go_end0
        exact ⟨ms1, lf1, lv1, rfl, by have h := HR.out.dfs; rwa [List.take_length] at h, HR.out.st, HR.out.at_, HR.out.only⟩
      rcases HA.out with h | ⟨g, o, rfl, hg, hc⟩
      · have := congrArg List.length h; rw [natI_len] at this; simp only [List.length_nil] at this; omega
      have q1 : wr.cell? ⟨g, o + k, none⟩ = some (.int .i64 (qs.getD k 0 : Nat)) := by
        have h1 := hc k hlt
        rw [natI_get _ _ hlt] at h1
        have h2 := HR.out.only.block g hg (HV.out g rfl)
        unfold World.cell? at h1 ⊢
        rw [h2]
        exact h1
      have HT := hid (take_snoc qs k hlt)
      have hqk : qs.getD k 0 ∈ qs := by simp [hlt]
      obtain ⟨q, hqq⟩ : ∃ q, qs.getD k 0 = q := ⟨_, rfl⟩
      rw [hqq] at q1 HT hqk
      have hqN := HQ.out q hqk
      have y0 := HR.out.st.m.cell 0
      simp at y0
      clear hc hqq hqk
      by_cases hin : q ∈ ms1
      · have hlk := set_yes HR.out.st.set hin
        have HIn := hid hin
        clear hin
        go_wp2_with fail
        go_roundw
        case rel => exact ⟨k + 1, ms1, lf1, lv1, by go_num, by omega, ⟨by rw [HT.out]; exact HR.out.dfs.append (Dfs.one_skip q HIn.out), HR.out.st, HR.out.at_, HR.out.only⟩⟩
        case measure => simp [intOf]; omega
      · have hlk := set_no HR.out.st.set hin
        have hput := run_setPut HR.out.st.set hin
        have HIn := hid hin
        clear hin
        go_upto_region 5 with fail
        clear hput hlk y0
        have hm4 := setSet_at (w := wr) (b := gm) HR.out.st.set.lt (ms1 ++ [q])
        have ho4 := setSet_only wr gm (ms1 ++ [q])
        generalize setSet wr gm (ms1 ++ [q]) = w4 at hm4 ho4 ⊢
        have HS4 := hid (show SS w0 bm gm bs bf bl B1 (.func (.func F) rs cs) lv1 (ms1 ++ [q]) lf1 w4 from
          ⟨row_only HR.out.st.m HB.out.mg ho4, hm4, row_only HR.out.st.s (fun h => HB.out.gs h.symm) ho4, row_only HR.out.st.f (fun h => HB.out.gf h.symm) ho4, row_only HR.out.st.l (fun h => HB.out.gl h.symm) ho4,
            own_only HR.out.st.own (fun g' hg' h => by have := (HR.out.st.own.lt g' hg').1; have := HB.out.g1; omega) ho4, Nat.le_trans HR.out.st.sz ho4.size, HR.out.st.bel.trans (ho4.below HR.out.st.bel.size (fun k hk => by have := HB.out.g0; omega))⟩)
        have HO4 := hid (SRel.mix HR.out.only HR.out.at_ (ho4.mono (fun k hk => .inl hk)))
        have hz4 := ho4.size
        clear hm4 ho4
        have s0 := HS4.out.s.cell 0
        have f0 := HS4.out.f.cell 0
        simp at s0 f0
        have hen := HL.out.enter
        have hlen1 := HR.out.dfs.len
        have hnd1 := HR.out.dfs.nodup HNd.out
        have hlt1 := HR.out.dfs.lt HG.out (fun x hx => HQ.out x (List.mem_of_mem_take hx)) HLt.out
        have hnd2 := snoc_nodup hnd1 HIn.out
        have hlt2 := snoc_lt hlt1 hqN
        have hle2 := nodup_le N _ hnd2 hlt2
        rw [List.length_append, List.length_singleton] at hle2
        have HN2 := hid hnd2
        have HL2 := hid hlt2
        have HLf := hid (show (∀ p ∈ lf1, p ∈ ms1) ∧ lf1.Nodup from by
          obtain ⟨new, h1, h2, h3, h4, _⟩ := HR.out.dfs.left
          subst h1
          refine ⟨fun p hp => ?_, ?_⟩
          · rcases List.mem_append.1 hp with h5 | h5
            · exact (h2 p).2 (.inl (HSub.out p h5))
            · exact (h2 p).2 (.inr h5)
          · rw [List.nodup_append]
            exact ⟨HLn.out, h3, fun x hx y hy e => h4 y hy (HSub.out y (e ▸ hx))⟩)
        have hn1 : n - 1 < n := by omega
        have hn2 : N ≤ (ms1 ++ [q]).length + (n - 1) := by rw [List.length_append, List.length_singleton]; omega
        have HLe := hid (show ∀ k : Nat, (k < w0.heap.size ∨ w4.heap.size ≤ k) → ¬ sT gm bl lv1 k from by
          intro k hk h
          have := HS4.out.set.lt
          have := HS4.out.l.lt
          have := HB.out.g0
          have := HB.out.l0
          have := HB.out.g1
          rcases h with h | h | h
          · omega
          · omega
          · have := HS4.out.own.lt k h
            omega)
        clear hlen1 hnd1 hlt1 hnd2 hlt2
        go_region_with (first
          | (go_at_call 93; refine (IH.out (n - 1) hn1 (L q) (ms1 ++ [q]) lf1 _ lv1 _ hn2 HN2.out HL2.out (HG.out q hqN) (HL.out.len q hqN) (fun p hp => by have := HLf.out.1 p hp; simp [this]) HLf.out.2 HS5.out HR5.out (fun k hk => HLe.out k (HV5.out k hk))).mono ?_; rintro e w6 ⟨ms2, lf2, lv2, rfl, hd6, hS6, hat6, ho6⟩; have HD6 := hid hd6; have HS6 := hid hS6; have HA6 := hid hat6; have HO6 := hid ho6; clear hd6 hS6 hat6 ho6)
          | (refine (HL.out.call q _ hqN HS4.out.bel.drew).mono ?_; rintro e w5 ⟨v5, rfl, hr5, hv5, hb5⟩; have HR5 := hid hr5; have HV5 := hid hv5; have HB5 := hid ((Below.refl w4.heap.size w4).drew.trans hb5); have HS5 := hid (HS4.out.on HB.out HB5.out); have s5 := HS5.out.s.cell 0; simp at s5; clear hr5 hv5 hb5))
        all_goals
          clear s0 f0 s5 hen
          have hxl : lf2.length ≤ N ∧ lf2.Nodup ∧ ∀ p ∈ lf2, p ∈ ms2 := by
            obtain ⟨new, h1, h2, h3, h4, _⟩ := HD6.out.left
            subst h1
            have hsub : ∀ p ∈ lf1 ++ new, p ∈ ms2 := fun p hp => by
              rcases List.mem_append.1 hp with h5 | h5
              · exact (h2 p).2 (.inl (by have := HLf.out.1 p h5; simp [this]))
              · exact (h2 p).2 (.inr h5)
            have hnd : (lf1 ++ new).Nodup := by
              rw [List.nodup_append]
              exact ⟨HLf.out.2, h3, fun x hx y hy e => h4 y hy (by have := HLf.out.1 x hx; simp [← e, this])⟩
            have hlt := HD6.out.lt HG.out (HG.out q hqN) HL2.out
            exact ⟨nodup_le N _ hnd (fun p hp => hlt p (hsub p hp)), hnd, hsub⟩
          have hx1 := hxl.1
          have HXl := hid hxl
          obtain ⟨xs, hxs⟩ : ∃ xs, natI lf2 = xs := ⟨_, rfl⟩
          have HXs := hid hxs
          have hxn : xs.length = lf2.length := by rw [← hxs, natI_len]
          have hown6 := HS6.out.own
          rw [hxs] at hown6
          have HOw := hid hown6
          obtain ⟨s2, c2, rfl⟩ := own_slice hown6
          have l0 := HS6.out.l.cell 0
          have lf0 := HS6.out.l.free
          simp at l0
          have hsz6 := HS6.out.sz
          have hxl3 : xs.length ≤ 1000 := by omega
          clear hown6 hxs hxl hxn hx1
          go_upto_region 7 with (at_builtin; refine app_ints _ rfl _ _ rfl B1 xs [(q : Int)] _ rfl (HOw.out.alloc _) _ _ _ rfl rfl (SrcAt.at_ _ [(q : Int)] #[.int .i64 q] _ 1 rfl (by simp) rfl) (by simp; omega) (by simp; omega) ?_; intro v7 w7 hg7; have HG7 := hid hg7; have hba := (Below.refl w6.heap.size w6).alloc (Nat.le_refl _) (.cells #[.int .i64 q] 3); have HBa := hid hba; have HL7 := hid (hg7.row (HS6.out.l.on hba) (no_own (HS6.out.l.on hba) (HOw.out.alloc (.cells #[.int .i64 q] 3)) (by decide))); have hown7 := hg7.own; obtain ⟨ys, hys⟩ : ∃ b, xs ++ [(q : Int)] = b := ⟨_, rfl⟩; rw [hys] at hown7; have HYs := hid hys; have HO7 := hid hown7; obtain ⟨s7, c7, rfl⟩ := own_slice hown7; have l7 := HL7.out.free; have l8 := HL7.out.cell 0; simp at l8; clear hg7 hba hown7 hys)
          clear l0 lf0 l7 l8
          have HL8 := hid (HL7.out.set 0 (.slice s7 ys.length c7))
          have ho78 : Only (fun k => k = bl) w7 (w7.setCell ⟨bl, 0, none⟩ (.slice s7 ys.length c7)) := (Only.refl (fun k => k = bl) w7).setCell (g := bl) rfl 0 _
          have o68 : Only (fun k => k = bl ∨ (Value.slice s2 xs.length c2).ownBlock = some k) w6 (w7.setCell ⟨bl, 0, none⟩ (.slice s7 ys.length c7)) :=
            ((Only.of_below HBa.out).trans ((grows_only HG7.out).mono (fun k hk => .inr hk))).trans (ho78.mono (fun k hk => .inl hk))
          have ho8 := own_only (p := fun k => k = bl) HO7.out (fun g' hg' h => by have := (HO7.out.lt g' hg').1; have := HB.out.l1; omega) ho78
          have HO8 := hid ho8
          have HOn := hid o68
          generalize w7.setCell ⟨bl, 0, none⟩ (.slice s7 ys.length c7) = w8 at HL8 HO8 HOn ⊢
          clear ho78 o68 ho8
          go_wp2_with fail
          go_roundw
          case rel =>
            have hown : ∀ k, (Value.slice s2 xs.length c2).ownBlock = some k → B1 ≤ k ∧ k < w6.heap.size := fun k hk => HOw.out.lt k hk
            have hno : ∀ b, b ≠ bl → b < B1 → ¬ (b = bl ∨ (Value.slice s2 xs.length c2).ownBlock = some b) := fun b hb hlt h => by
              rcases h with h | h
              · exact hb h
              · have := (hown b h).1; omega
            have hy : natI (lf2 ++ [q]) = ys := by rw [natI_app, HXs.out, ← HYs.out]; rfl
            refine ⟨k + 1, ms2, lf2 ++ [q], .slice s7 ys.length c7, by go_num, by omega, ⟨by rw [HT.out]; exact HR.out.dfs.append (Dfs.one HIn.out HD6.out), ⟨row_only HS6.out.m (hno _ HB.out.ml HB.out.m1) HOn.out, HS6.out.set.only (hno _ HB.out.gl HB.out.g1) HOn.out, row_only HS6.out.s (hno _ HB.out.sl HB.out.s1) HOn.out, row_only HS6.out.f (hno _ HB.out.fl HB.out.f1) HOn.out, HL8.out, by rw [hy]; exact HO8.out, Nat.le_trans HS6.out.sz HOn.out.size, ?_⟩, ?_, ?_⟩⟩
            · refine HS6.out.bel.trans (HOn.out.below HS6.out.bel.size (fun j hj => ?_))
              rcases hj with h | h
              · rw [h]; exact HB.out.l0
              · have := (hown j h).1; have := HB.out.m0; have := HB.out.m1; omega
            · intro j hj
              have h1 : (Value.slice s2 xs.length c2).ownBlock = some j ∨ w6.heap.size ≤ j := by
                rcases HG7.out.at_ with h | ⟨g', h, h2⟩
                · exact .inl (h.symm.trans hj)
                · rw [h] at hj
                  cases hj
                  simp only [World.size_alloc] at h2
                  exact .inr (by omega)
              have hs5 := HB5.out.size
              have hs6 := HO6.out.size
              rcases h1 with h1 | h1
              · rcases HA6.out j h1 with h2 | h2
                · exact HR.out.at_ j h2
                · exact .inr (by omega)
              · exact .inr (by omega)
            · have h5 : Only (sT gm bl lv) w w5 := HO4.out.trans (Only.of_below HB5.out)
              have h6 := SRel.mix h5 HR.out.at_ HO6.out
              have hs5 := HB5.out.size
              refine only_mix h6 HOn.out (fun j hj => ?_)
              rcases hj with h | h
              · exact .inl (.inr (.inl h))
              · rcases HA6.out j h with h2 | h2
                · rcases HR.out.at_ j h2 with h3 | h3
                  · exact .inl (.inr (.inr h3))
                  · exact .inr h3
                · exact .inr (by omega)
          case measure => simp [intOf]; omega
set_option maxRecDepth 100000 in
set_option maxHeartbeats 4000000 in
theorem reached_c {L : Nat → List Nat} {N F : Nat} {rs cs : Array Value} (qs : List Nat) (v : Value) (w : World) (hL : Lds L N F rs cs w) (hG : ∀ p, p < N → ∀ q ∈ L p, q < N) (hN : N ≤ 1000) (hq : ∀ q ∈ qs, q < N) (hql : qs.length ≤ 1000)
    (hr : Rd w v (natI qs)) (hv : ∀ k, v.ownBlock = some k → k < w.heap.size) :
    Calls Try.prog 71 #[v, .func (.func F) rs cs] w (WaysPost (natI (Gp.leftOf L qs [])) w) := by
  have HL := hid hL
  have HG := hid hG
  have HQ := hid hq
  have HR := hid hr
  have HV := hid hv
  have hmm := @run_makeMap Try.prog
  clear hL hG hq hr hv
  go_enter Try.func71, Try.ntmps71
  go_upto_region 4 with fail
  clear hmm
  obtain ⟨H, hH⟩ : ∃ H, w.heap.size = H := ⟨_, rfl⟩
  have hb1 := (Below.refl w.heap.size w).alloc (Nat.le_refl _) (.cells #[.func (.func F) rs cs] 56)
  have hf1 := Row.new w 56 #[.func (.func F) rs cs]
  obtain ⟨w1, hw1⟩ : ∃ w1, w.alloc (.cells #[.func (.func F) rs cs] 56) = w1 := ⟨_, rfl⟩
  have hz1 : w1.heap.size = H + 1 := by rw [← hw1, ← hH]; simp
  rw [hw1] at hb1 hf1 ⊢
  have hb2 := hb1.alloc (by omega) (.cells #[.slice none 0 0] 26)
  have hf2 := hf1.alloc (.cells #[.slice none 0 0] 26)
  have hl2 := Row.new w1 26 #[.slice none 0 0]
  obtain ⟨w2, hw2⟩ : ∃ w2, w1.alloc (.cells #[.slice none 0 0] 26) = w2 := ⟨_, rfl⟩
  have hz2 : w2.heap.size = H + 2 := by rw [← hw2]; simp [hz1]
  rw [hw2] at hb2 hf2 hl2 ⊢
  have hb3 := hb2.alloc (by omega) (.map #[] 0)
  have hf3 := hf2.alloc (.map #[] 0)
  have hl3 := hl2.alloc (.map #[] 0)
  have hm3 := setAt_new w2
  obtain ⟨w3, hw3⟩ : ∃ w3, w2.alloc (.map #[] 0) = w3 := ⟨_, rfl⟩
  have hz3 : w3.heap.size = H + 3 := by rw [← hw3]; simp [hz2]
  rw [hw3] at hb3 hf3 hl3 hm3 ⊢
  rw [hz2] at hm3
  rw [hz1] at hl3
  rw [hH] at hf3 ⊢
  obtain ⟨mo, hmo⟩ : ∃ mo, Obj.cells #[Value.map (some (H + 1 + 1))] 82 = mo := ⟨_, rfl⟩
  have hb4 := hb3.alloc (by omega) mo
  have hf4 := hf3.alloc mo
  have hl4 := hl3.alloc mo
  have hm4 := hm3.alloc mo
  have hp4 := Row.new w3 82 #[Value.map (some (H + 1 + 1))]
  rw [hmo] at hp4 ⊢
  obtain ⟨w4, hw4⟩ : ∃ w4, w3.alloc mo = w4 := ⟨_, rfl⟩
  have hz4 : w4.heap.size = H + 4 := by rw [← hw4]; simp [hz3]
  rw [hw4] at hb4 hf4 hl4 hm4 hp4 ⊢
  rw [hz3] at hp4
  have hb5 := hb4.alloc (by omega) (.cells #[.nilFunc] 65)
  have hf5 := hf4.alloc (.cells #[.nilFunc] 65)
  have hl5 := hl4.alloc (.cells #[.nilFunc] 65)
  have hm5 := hm4.alloc (.cells #[.nilFunc] 65)
  have hp5 := hp4.alloc (.cells #[.nilFunc] 65)
  have hs5 := Row.new w4 65 #[.nilFunc]
  obtain ⟨w5, hw5⟩ : ∃ w5, w4.alloc (.cells #[.nilFunc] 65) = w5 := ⟨_, rfl⟩
  have hz5 : w5.heap.size = H + 5 := by rw [← hw5]; simp [hz4]
  rw [hw5] at hb5 hf5 hl5 hm5 hp5 hs5 ⊢
  rw [hz4] at hs5
  rw [show H + 1 + 1 + 1 + 1 = H + 4 from rfl, show H + 1 + 1 + 1 = H + 3 from rfl, show H + 1 + 1 = H + 2 from rfl]
  rw [show H + 1 + 1 = H + 2 from rfl] at hmo
  subst hmo
  have HV5 := hid (show SetAt w5 (H + 2) [] from hm5)
  have HF5 := hid hf5
  have HL5 := hid hl5
  have HP5 := hid hp5
  have HS5 := hid hs5
  have HB5 := hid hb5
  have HH := hid hH
  have s0 := hs5.cell 0
  have sf := hs5.free
  simp at s0
  clear hw1 hw2 hw3 hw4 hw5 hb1 hb2 hb3 hb4 hb5 hf1 hf2 hf3 hf4 hf5 hl2 hl3 hl4 hl5 hm3 hm4 hm5 hp4 hp5 hs5 hz1 hz2 hz3 hz4 hH
  go_upto_region 5 with fail
  clear s0 sf
  have ho6 : Only (fun k => k = H + 4) w5 (w5.setCell ⟨H + 4, 0, none⟩ (.func (.func 93) #[] #[.pointer (some ⟨H + 3, 0, none⟩), .pointer (some ⟨H + 4, 0, none⟩), .pointer (some ⟨H, 0, none⟩), .pointer (some ⟨H + 1, 0, none⟩)])) := (Only.refl (fun k => k = H + 4) w5).setCell (g := H + 4) rfl 0 _
  have hs6 := HS5.out.set 0 (.func (.func 93) #[] #[.pointer (some ⟨H + 3, 0, none⟩), .pointer (some ⟨H + 4, 0, none⟩), .pointer (some ⟨H, 0, none⟩), .pointer (some ⟨H + 1, 0, none⟩)])
  generalize w5.setCell ⟨H + 4, 0, none⟩ (.func (.func 93) #[] #[.pointer (some ⟨H + 3, 0, none⟩), .pointer (some ⟨H + 4, 0, none⟩), .pointer (some ⟨H, 0, none⟩), .pointer (some ⟨H + 1, 0, none⟩)]) = w6 at ho6 hs6 ⊢
  have hHe := HH.out
  have hB : SB w (H + 3) (H + 2) (H + 4) H (H + 1) (H + 5) := by constructor <;> omega
  have hz6 := ho6.size
  have hS : SS w (H + 3) (H + 2) (H + 4) H (H + 1) (H + 5) (.func (.func F) rs cs) (.slice none 0 0) [] [] w6 :=
    ⟨row_only HP5.out (by omega) ho6, HV5.out.only (by omega) ho6, hs6, row_only HF5.out (by omega) ho6, row_only HL5.out (by omega) ho6, World.ownsRow_nil _ _ _ _, by omega, HB5.out.trans (ho6.below HB5.out.size (fun k hk => by omega))⟩
  have hSB := hid hS
  have hBB := hid hB
  have c6 := hs6.cell 0
  simp at c6
  clear ho6 hs6 hS hB hHe
  go_wp2_with fail
  refine (search_c w (H + 3) (H + 2) (H + 4) H (H + 1) (H + 5) HL.out HG.out hN hBB.out N qs [] [] v (.slice none 0 0) w6 (by simp) List.nodup_nil (by simp) HQ.out hql (by simp) List.nodup_nil hSB.out (Rd.on HR.out hSB.out.bel) (fun k hk h => ?_)).mono ?_
  · have h1 := HV.out k hk
    have h2 := HH.out
    rcases h with h | h | h
    · omega
    · omega
    · cases h
  rintro e w7 ⟨ms', lf', lv', rfl, hd, hS7, hat, ho⟩
  have HS7 := hid hS7
  have HD := hid hd
  have l0 := hS7.l.cell 0
  simp at l0
  have hown := hS7.own
  rw [← Gp.leftOf_eq hd] at hown
  have HO := hid (own_mono (base' := w.heap.size) hown (by have := HH.out; omega))
  obtain ⟨sl, cl, rfl⟩ := own_slice hown
  clear hd hS7 hat ho hown
  go_wp2_with fail
  go_ret
  exact ⟨_, rfl, HO.out, HS7.out.bel⟩
end Go.Proofs.Ytbbhbjdpdhbjlaa.Ge
