/- What a call leaves that stays; terms with marks, their parts by name. -/
import Derived.Test.YtgenojpdjplccaaDoorVr
set_option linter.unusedSimpArgs false
set_option linter.unusedVariables false
namespace Go.Proofs.YtgenojpdjplccaaDoor.Um
open Go.RowKit Pl Ft Mm In C2 Im

/-- What stays however the blocks are changed that were there before. -/
def Stb (w w' : World) (P : World → Prop) : Prop := ∀ x : World, w'.heap.size ≤ x.heap.size → (∀ k, w.heap.size ≤ k → k < w'.heap.size → x.heap[k]? = w'.heap[k]?) → P x
theorem Stb.here {w w' : World} {P : World → Prop} (h : Stb w w' P) : P w' := h w' (Nat.le_refl _) (fun _ _ _ => rfl)
theorem Stb.on {w w' x : World} {P : World → Prop} (h : Stb w w' P) (hb : Below w'.heap.size w' x) : P x := h x hb.size (fun k _ hk => hb.block k hk)
theorem stb_of {F : Nat} {xs : Array Value} {w : World} {z0 z1 : Int} {z2 : ByteArray} {lz : Nat} {ok : Bool} {ks : List Tm} {m : Nat}
    (h : Calls Tryd.prog F xs w fun e w' => ∃ s k, e = .returned (.tuple #[.agg #[.int .i64 z0, .int .i64 z1, .string z2, .slice s lz k], .bool ok]) ∧ KOwn w' m w.heap.size w'.heap.size (.slice s lz k) ks ∧ Below w.heap.size w w') :
    Calls Tryd.prog F xs w fun e w' => ∃ s k, e = .returned (.tuple #[.agg #[.int .i64 z0, .int .i64 z1, .string z2, .slice s lz k], .bool ok]) ∧ Stb w w' (fun x => KRd x m (.slice s lz k) ks) ∧ Below w.heap.size w w' := by
  refine h.mono ?_
  rintro e w' ⟨s, k, rfl, hown, hb⟩
  exact ⟨s, k, rfl, fun x _ hxk => (hown.keep (fun b h1 h2 _ => hxk b h1 h2)).rd, hb⟩
theorem heldTerm_v {t : Tm} {x0 x1 : Int} {x2 : ByteArray} {lk : Nat} (hp : Pt t x0 x1 x2 lk) {n k k' : Nat} {kv : Value} {w : World} {ks : List Tm} (hr : KRd w n kv ks) (hm : Mk n k ks k') (h0 : 0 < k) (hk : k' ≤ 10000000) :
    Calls Tryd.prog 34 #[.agg #[.int .i64 x0, .int .i64 x1, .string x2, kv], .int .i64 k] w fun e w' => e = .returned (.int .i64 k') ∧ Below w.heap.size w w' :=
  heldTerm_c n k k' (.mk x0 x1 x2 ks) kv w hr hm h0 hk
end Go.Proofs.YtgenojpdjplccaaDoor.Um
