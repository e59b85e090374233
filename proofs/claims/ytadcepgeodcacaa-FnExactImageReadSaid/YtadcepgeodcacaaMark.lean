/- The laws' own markText: the text of a number; no program's part is spoken of here but the law's. -/
import Derived.Test.YtadcepgeodcacaaNm
import Derived.Laws.IdiomStrings
import Derived.Laws.Concat
set_option linter.unusedSimpArgs false
set_option linter.unusedVariables false
namespace Go.Proofs.Ytadcepgeodcacaa.Im
open Go.RowKit Pl Ft Mm In C2

def digs : Nat → Nat → ByteArray → ByteArray
  | 0, _, acc => acc
  | f + 1, n, acc => if n = 0 then acc else digs f (n / 10) (⟨#[UInt8.ofNat (48 + n % 10)]⟩ ++ acc)
def mk (k : Int) : ByteArray := if k ≤ 0 then ⟨#[109, 48]⟩ else ⟨#[109]⟩ ++ digs k.toNat k.toNat ⟨#[]⟩
theorem digs_zero (f : Nat) (acc : ByteArray) : digs f 0 acc = acc := by cases f <;> simp [digs]
theorem digs_step (f n : Nat) (acc : ByteArray) (h : 0 < n) : digs (f + 1) n acc = digs f (n / 10) (⟨#[UInt8.ofNat (48 + n % 10)]⟩ ++ acc) := by
  rw [digs, if_neg (by omega)]
theorem mk_pos (k : Nat) (h : 0 < k) : mk (k : Int) = ⟨#[109]⟩ ++ digs k k ⟨#[]⟩ := by
  unfold mk
  rw [if_neg (by omega), Int.toNat_natCast]
theorem one_size (b : UInt8) (acc : ByteArray) : ((⟨#[b]⟩ : ByteArray) ++ acc).size = acc.size + 1 := by
  rw [ByteArray.size_append]
  show 1 + _ = _
  omega
theorem conv_one (w : World) (x : Nat) (hx : x < 256) :
    (convert 22 9 (.slice (some ⟨w.heap.size, 0, none⟩) 1 1)).run Try.prog (w.alloc (.cells #[.int .u8 (x : Int)] 5)) = .ok (.string ⟨#[UInt8.ofNat x]⟩) (w.alloc (.cells #[.int .u8 (x : Int)] 5)) := by
  have h := run_convert_bytes_back (P := Try.prog) (w.alloc (.cells #[.int .u8 (x : Int)] 5)) 22 9 5 ⟨w.heap.size, 0, none⟩ 1 [UInt8.ofNat x] Try.underlying22 Try.underlying5 Try.underlying9 (fun j hj => by
    have hj0 : j = 0 := by simpa using hj
    subst hj0
    have e : ((UInt8.ofNat x).toNat : Int) = (x : Int) := by simp; omega
    simp only [List.getElem_cons_zero]
    rw [e]
    exact new_cells w #[.int .u8 (x : Int)] _ _ rfl 0 _ rfl)
  exact h
theorem add_one (w : World) (x : Nat) (acc : ByteArray) (h : acc.size ≤ 4611686018427387904) : (Op.stringOp .add ⟨#[UInt8.ofNat x]⟩ acc).run Try.prog w = .ok (.string (⟨#[UInt8.ofNat x]⟩ ++ acc)) w :=
  run_string_add_sum w _ _ (by
    have : (⟨#[UInt8.ofNat x]⟩ : ByteArray).size = 1 := rfl
    omega)
set_option maxHeartbeats 1000000 in
theorem markText_c (k : Nat) (w : World) (hk0 : 0 < k) (hk : k ≤ 4611686018427387900) :
    Calls Try.prog 78 #[.int .i64 k] w fun e w' => e = .returned (.string (mk k)) ∧ Below w.heap.size w w' := by
  have HMk := hid (mk_pos k hk0)
  go_enter Try.func78, Try.ntmps78
  go_wp2_with fail
  go_loopw [0, 3] (fun x s wr => ∃ (f n : Nat) (acc : ByteArray), x = .int .i64 n ∧ s = .string acc ∧ digs f n acc = digs k k ⟨#[]⟩ ∧ n ≤ f ∧ f ≤ k ∧ acc.size + n ≤ k ∧ Below w.heap.size w wr) (fun x _ _ => (intOf x).toNat)
  case atStart => exact ⟨k, k, ⟨#[]⟩, rfl, rfl, rfl, by omega, by omega, by show 0 + k ≤ k; omega, Below.refl _ _⟩
  case round =>
    obtain ⟨f, n, acc, rfl, rfl, hd, hnf, hfk, hsz, hbel⟩ := hrel
    have HD := hid hd
    have HBe := hid hbel
    have hz := hbel.size
    clear hd hbel
    by_cases hn : 0 < n
    · obtain ⟨f', rfl⟩ : ∃ f', f = f' + 1 := ⟨f - 1, by omega⟩
      have hc := conv_one wr (48 + n % 10) (by omega)
      have ha := add_one (wr.alloc (.cells #[.int .u8 ((48 + n % 10 : Nat) : Int)] 5)) (48 + n % 10) acc (by omega)
      have e : ((48 + n % 10 : Nat) : Int) = 48 + (n : Int) % 10 := by omega
      rw [e] at hc ha
      clear e
      have hstep := (digs_step f' n acc hn).symm.trans HD.out
      obtain ⟨b, hb⟩ : ∃ b, UInt8.ofNat (48 + n % 10) = b := ⟨_, rfl⟩
      rw [hb] at hc ha hstep
      have HStep := hid hstep
      have HSz := hid (one_size b acc)
      clear hb hstep
      go_wp2_with fail
      go_roundw
      case rel => exact ⟨f', n / 10, ⟨#[b]⟩ ++ acc, by go_num, rfl, HStep.out, by omega, by omega, by rw [HSz.out]; omega, HBe.out.alloc (by omega) _⟩
      case measure => simp [intOf]; omega
    · have ha : (Op.stringOp .add ⟨#[109]⟩ acc).run Try.prog wr = .ok (.string (⟨#[109]⟩ ++ acc)) wr := run_string_add_sum wr _ _ (by
        have : (⟨#[109]⟩ : ByteArray).size = 1 := rfl
        omega)
      go_wp2_with fail
      go_ret
      obtain rfl : n = 0 := by omega
      exact ⟨ret_eq (congrArg Value.string (by rw [HMk.out, ← HD.out, digs_zero])), HBe.out⟩
end Go.Proofs.Ytadcepgeodcacaa.Im
