/- Closed facts on the great test of Apart: its operations may be gone through in the order of the text. -/
import Derived.Test.YtecddphahiadlaaPure
import Derived.BigQuiet
import Derived.Deep.QuietTactic
namespace Go.Proofs.Ytecddphahiadlaa
open Go.RowKit

/-- The operations of region n. -/
def regionOps (n : Nat) : Code → Option (Array Oper)
  | .region id ops _ => if id = n then some ops else none
  | .seq a b => match regionOps n a with
    | some o => some o
    | none => regionOps n b
  | .block _ c => regionOps n c
  | .loop c => regionOps n c
  | .scope c => regionOps n c
  | .cond _ a b => match regionOps n a with
    | some o => some o
    | none => regionOps n b
  | _ => none

/-- So many steps of the look at the order of the text. -/
def lexSome (md : Region.Mode) (ops : Array Oper) : Nat → Nat → Array Bool → Bool
  | 0, _, _ => true
  | f + 1, k, L => (Region.ready md ops L).contains k && Region.free md ops L k && lexSome md ops f (k + 1) (L.setIfInBounds k true)

def lexL : Nat → Nat → Array Bool → Array Bool
  | 0, _, L => L
  | f + 1, k, L => lexL f (k + 1) (L.setIfInBounds k true)

theorem lexFrom_parts (md : Region.Mode) (ops : Array Oper) (m : Nat) : ∀ (n k : Nat) (L : Array Bool), Region.lexFrom md ops (n + m) k L = (lexSome md ops n k L && Region.lexFrom md ops m (k + n) (lexL n k L))
  | 0, k, L => by simp [lexSome, lexL]
  | n + 1, k, L => by
    have ih := lexFrom_parts md ops m n (k + 1) (L.setIfInBounds k true)
    rw [show n + 1 + m = (n + m) + 1 from by omega]
    simp only [Region.lexFrom, lexSome, lexL]
    rw [ih, show k + 1 + n = k + (n + 1) from by omega, Bool.and_assoc, Bool.and_assoc, Bool.and_assoc]

def tf (a b : Nat) : Array Bool := (List.replicate a true ++ List.replicate b false).toArray

def asks (md : Region.Mode) (n k a b : Nat) (ops : Array Oper) : Bool := lexSome md ops n k (tf a b)

theorem lexA : (Try.f4.body.bind (regionOps 30)).map (asks .any 16 0 0 92) = some true := by kernel_rfl
theorem lexB : (Try.f4.body.bind (regionOps 30)).map (asks .any 16 16 16 76) = some true := by kernel_rfl
theorem lexC : (Try.f4.body.bind (regionOps 30)).map (asks .any 16 32 32 60) = some true := by kernel_rfl
theorem lexD : (Try.f4.body.bind (regionOps 30)).map (asks .any 16 48 48 44) = some true := by kernel_rfl
theorem lexE : (Try.f4.body.bind (regionOps 30)).map (asks .any 16 64 64 28) = some true := by kernel_rfl
theorem lexF : (Try.f4.body.bind (regionOps 30)).map (asks .any 12 80 80 12) = some true := by kernel_rfl
theorem lexG : (Try.f4.body.bind (regionOps 30)).map (fun o => (Region.ready .any o (tf 92 0)).isEmpty && Region.noSelect o && o.size == 92) = some true := by kernel_rfl

theorem lex_step (ops : Array Oper) (n m k a b a' b' : Nat) (h : asks .any n k a b ops = true) (hL : lexL n k (tf a b) = tf a' b') (hr : Region.lexFrom .any ops m (k + n) (tf a' b') = true) : Region.lexFrom .any ops (n + m) k (tf a b) = true := by
  rw [lexFrom_parts, hL, hr, Bool.and_true]
  exact h

theorem lex30_of (l : List Oper) (h : Try.f4.body.bind (regionOps 30) = some l.toArray) : Region.lexB .any l.toArray = true := by
  have a := lexA
  have b := lexB
  have c := lexC
  have d := lexD
  have e := lexE
  have f := lexF
  have g := lexG
  rw [h] at a b c d e f g
  simp only [Option.map_some, Option.some.injEq] at a b c d e f g
  generalize l.toArray = ops at a b c d e f g ⊢
  simp only [Bool.and_eq_true, beq_iff_eq] at g
  unfold Region.lexB
  rw [g.1.2, g.2, Bool.true_and]
  have z : (Array.replicate 92 false : Array Bool) = tf 0 92 := by kernel_rfl
  rw [z]
  exact lex_step ops 16 76 0 0 92 16 76 a (by kernel_rfl) (lex_step ops 16 60 16 16 76 32 60 b (by kernel_rfl) (lex_step ops 16 44 32 32 60 48 44 c (by kernel_rfl) (lex_step ops 16 28 48 48 44 64 28 d (by kernel_rfl)
    (lex_step ops 16 12 64 64 28 80 12 e (by kernel_rfl) (lex_step ops 12 0 80 80 12 92 0 f (by kernel_rfl) g.1.1)))))

end Go.Proofs.Ytecddphahiadlaa
