/- next and find at every level. -/
import Derived.Test.YtofbcngcblleaaaGreatLpFindF
import Derived.Test.YtofbcngcblleaaaGreatLpFindP
namespace Go.Proofs.YtofbcngcblleaaaGreat.A
open Go.RowKit Go.Proofs.YtofbcngcblleaaaGreat.L

theorem next_all : ∀ n : Nat, NxC n
  | 0 => next_of_find find_zero
  | m + 1 => next_of_find fun PR S w o lb b t rb rl q A id j h hst ht h0 h1 hn hl hj hcl => by
    by_cases e : j = m + 1
    · exact find_full (next_all m) w o lb b t rb rl q A id j h hst ht h0 h1 hn hl e hcl
    · exact find_part (next_all m) w o lb b t rb rl q A id j h hst ht h0 h1 hn hl (by omega) hcl
end Go.Proofs.YtofbcngcblleaaaGreat.A
