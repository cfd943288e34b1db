/-
  What page answers.
-/
import Derived.Test.YtdmomnpmicagcaaPgD
import Derived.Test.YtdmomnpmicagcaaPgF
