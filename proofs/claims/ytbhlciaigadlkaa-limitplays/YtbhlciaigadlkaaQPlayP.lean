/- The law's played, whatever the call. -/
import Derived.Test.YtbhlciaigadlkaaQPlayC
import Derived.Test.YtbhlciaigadlkaaQPlayD
import Derived.Test.YtbhlciaigadlkaaQPlayE
import Derived.Test.YtbhlciaigadlkaaQPlayF
import Derived.Test.YtbhlciaigadlkaaQPlayG
import Derived.Test.YtbhlciaigadlkaaQPlayH
namespace Go.Proofs.Ytbhlciaigadlkaa
open Go.RowKit Go.Maps Go.Shelf

/-- What a call of the script does to a limit. -/
def playS (S : LS) (xk : Int) (xs : Nm) (xn : Nat) : LS :=
  if xk = 1 then (S.try xs xn).1 else if xk = 4 then S.forgive xs else if xk = 5 then S.goTo xn else if xk = 7 then S.clear else S
theorem played_any (G : List Nat) (w0 : World) (lp kp : Nat) (S T : LS) (ao : Option Addr) (n c : Nat) (L : Tab) (xk : Int) (xs : Nm) (xn : Nat) (w : World) (h : Two G w0 w lp kp S T) (hV : VSee w ao L) (hg : ∀ a, ao = some a → a.block ∈ G) (hn : n = L.length) (hR : RI S L) (hsz : (n + 1) * 32 ≤ 140737488355328) (hxl : xs.length ≤ maxLen) (hxn : xn < 18446744073709551616) :
    Calls Try.prog 12 #[pf lp, .agg (rcl S (.slice ao n c)).toArray, .agg #[.int .i64 xk, .string (str xs), .int .u64 (xn : Int)]] w fun e w' => PlayedPost G w0 w lp kp (playS S xk xs xn) T ao L e w' := by
  by_cases h1 : xk = 1
  · subst h1; exact played_try G w0 lp kp S T ao n c L xs xn w h hV hg hn hR hsz hxl hxn
  by_cases h2 : xk = 2
  · subst h2; exact played_left G w0 lp kp S T ao n c L xs xn w h hV hg hn hR hsz hxl hxn
  by_cases h3 : xk = 3
  · subst h3; exact played_wait G w0 lp kp S T ao n c L xs xn w h hV hg hn hR hsz hxl hxn
  by_cases h4 : xk = 4
  · subst h4; exact played_forgive G w0 lp kp S T ao n c L xs xn w h hV hg hn hR hsz hxl hxn
  by_cases h5 : xk = 5
  · subst h5; exact played_sweep G w0 lp kp S T ao n c L xs xn w h hV hg hn hR hsz hxl hxn
  by_cases h6 : xk = 6
  · subst h6; exact played_subjects G w0 lp kp S T ao n c L xs xn w h hV hg hn hR hsz hxl hxn
  by_cases h7 : xk = 7
  · subst h7; exact played_clear G w0 lp kp S T ao n c L xs xn w h hV hg hn hR hsz hxl hxn
  have e : playS S xk xs xn = S := by unfold playS; rw [if_neg h1, if_neg h4, if_neg h5, if_neg h7]
  rw [e]
  exact played_else G w0 lp kp S T ao n c L xk xs xn w h hV hg hn hR hsz hxl hxn h1 h2 h3 h4 h5 h6 h7
end Go.Proofs.Ytbhlciaigadlkaa
